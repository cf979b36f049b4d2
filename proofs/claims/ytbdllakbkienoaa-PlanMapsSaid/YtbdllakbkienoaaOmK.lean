/- find, within, insert and take of package omap: contracts of the translated code. Conditions: at most 1000 pairs with increasing keys; the bounds of each number's kind. -/
import Derived.Test.YtbdllakbkienoaaOmF
namespace Go.Proofs.Ytbdllakbkienoaa
open Go.RowKit Go.Sort Go.Lib
set_option linter.unusedVariables false
set_option linter.unusedSimpArgs false
namespace Om
def fT (l : List Pr) (key : Int) : Value := .tuple #[.int .i64 (lowN l key), .int .u64 ((getL l key).getD 0), .bool (getL l key).isSome]
set_option maxRecDepth 100000 in
set_option maxHeartbeats 2000000 in
theorem find_any (bm : Nat) (v : Value) (l : List Pr) (key : Int) (w : World) (hm : MapAt w bm v l) (ha : Asc l) (hs : l.length ≤ 1000) :
    Calls Try.prog 65 #[.pointer (some ⟨bm, 0, none⟩), .int .u64 key] w fun e w' => e = .returned (fT l key) ∧ Below w.heap.size w w' := by
  obtain ⟨A, c, rfl, hc, rd, hz⟩ := hm.rd
  have b0 : Below w.heap.size w ((w.alloc (.cells #[.pointer (some ⟨bm, 0, none⟩)] 52)).alloc (.cells #[.int .u64 key] 23)) := bel_alloc (bel_alloc (Below.refl _ _) _) _
  have HM := Lib.hid hm
  have HRD := Lib.hid rd
  have HA := Lib.hid ha
  have hl1 : (l.length : Int) ≤ 1000 := by omega
  obtain ⟨n, hn⟩ : ∃ n, l.length = n := ⟨_, rfl⟩
  have hat := lowN_le l key
  have hS := search_any 81 w.heap.size (w.heap.size + 1) n (fun i => decide (key ≤ (l.getD i (0, 0)).1)) ((w.alloc (.cells #[.pointer (some ⟨bm, 0, none⟩)] 52)).alloc (.cells #[.int .u64 key] 23)) (enters_of Try.func81 (by kernel_rfl) rfl) (by omega)
    (fun W b i hi => findCl w.heap.size (w.heap.size + 1) bm key A n c i l W hn (by omega) hi ((b.cell (p := ⟨w.heap.size, 0, none⟩) (by simp <;> omega)).trans (by simp)) ((b.cell (p := ⟨w.heap.size + 1, 0, none⟩) (by simp <;> omega)).trans (by simp))
      (by rw [← hn]; exact (hm.below (bel_trans b0 b)).1) (rd.below (bel_trans b0 b)))
    (fun a b hab hb h => by
      have h' : key ≤ (l.getD a (0, 0)).1 := of_decide_eq_true h
      have := asc_le ha hab (by omega)
      exact decide_eq_true (by omega))
  rw [low_count l key n hn] at hS
  have HS := Lib.hid hS; clear hS
  have HL := Lib.hid hn
  have m0 := (HM.out.below b0).1
  rw [hn] at m0 hat hl1
  have HX := Lib.hid (show ∀ x, l[lowN l key]? = some x → ∀ W, Below w.heap.size w W → ∃ b o, A = some ⟨b, o, none⟩ ∧ W.cell? ⟨b, o + lowN l key * 2, none⟩ = some (.int .u64 x.1) ∧ W.cell? ⟨b, o + lowN l key * 2 + 1, none⟩ = some (.int .u64 x.2) from fun x hx W hb => (rd.below hb) _ x hx)
  have t9 : ((key : Int) == key) = true := by simp
  clear hm rd hz hs hc
  cases hg : getL l key with
  | none =>
    have HT := Lib.hid (show fT l key = .tuple #[.int .i64 (lowN l key), .int .u64 0, .bool false] by unfold fT; rw [hg]; rfl)
    by_cases h1 : lowN l key < n
    · have hx : l[lowN l key]? = some (l[lowN l key]'(by omega)) := List.getElem?_eq_getElem (by omega)
      have t1 := no_get hg hx
      have HX := Lib.hid (HX.out _ hx)
      generalize (l[lowN l key]'(by omega)) = x at *
      clear hx hg ha HRD
      generalize lowN l key = at' at *
      have t0 : decide ((at' : Int) < n) = true := decide_eq_true (by omega)
      have hai : (at' : Int) < n := by omega
      clear hn
      go_enter Try.func65, Try.ntmps65
      go_wp2_with fail
      refine HS.out.mono ?_
      rintro r w2 ⟨rfl, b2⟩
      have bw := bel_trans b0 b2
      have e1 : w2.cell? ⟨w.heap.size, 0, none⟩ = some (.pointer (some ⟨bm, 0, none⟩)) := (b2.cell (p := ⟨w.heap.size, 0, none⟩) (by simp <;> omega)).trans (by simp)
      have e2 : w2.cell? ⟨w.heap.size + 1, 0, none⟩ = some (.int .u64 key) := (b2.cell (p := ⟨w.heap.size + 1, 0, none⟩) (by simp <;> omega)).trans (by simp)
      have m2 := (HM.out.below bw).1
      rw [HL.out] at m2
      obtain ⟨b, o, e, g0, g1⟩ := HX.out _ bw
      cases e
      go_wp2
      go_quiet (fail)
      go_wp2
      go_ret3
      exact ⟨by rw [HT.out]; rfl, below_drewN bw _⟩
    · generalize lowN l key = at' at *
      obtain rfl : at' = n := by omega
      have t0 : decide ((at' : Int) < at') = false := decide_eq_false (by omega)
      clear hn hg ha HRD
      go_enter Try.func65, Try.ntmps65
      go_wp2_with fail
      refine HS.out.mono ?_
      rintro r w2 ⟨rfl, b2⟩
      have bw := bel_trans b0 b2
      have e1 : w2.cell? ⟨w.heap.size, 0, none⟩ = some (.pointer (some ⟨bm, 0, none⟩)) := (b2.cell (p := ⟨w.heap.size, 0, none⟩) (by simp <;> omega)).trans (by simp)
      have e2 : w2.cell? ⟨w.heap.size + 1, 0, none⟩ = some (.int .u64 key) := (b2.cell (p := ⟨w.heap.size + 1, 0, none⟩) (by simp <;> omega)).trans (by simp)
      have m2 := (HM.out.below bw).1
      rw [HL.out] at m2
      go_wp2
      go_quiet (fail)
      go_wp2
      go_ret3
      exact ⟨by rw [HT.out]; rfl, below_drewN bw _⟩
  | some u =>
    have HT := Lib.hid (show fT l key = .tuple #[.int .i64 (lowN l key), .int .u64 u, .bool true] by unfold fT; rw [hg]; rfl)
    obtain ⟨hx, h1⟩ := at_get ha hg
    have HX := Lib.hid (HX.out _ hx)
    clear hx hg ha HRD
    generalize lowN l key = at' at *
    rw [hn] at h1
    have t0 : decide ((at' : Int) < n) = true := decide_eq_true (by omega)
    have hai : (at' : Int) < n := by omega
    clear hn
    go_enter Try.func65, Try.ntmps65
    go_wp2_with fail
    refine HS.out.mono ?_
    rintro r w2 ⟨rfl, b2⟩
    have bw := bel_trans b0 b2
    have e1 : w2.cell? ⟨w.heap.size, 0, none⟩ = some (.pointer (some ⟨bm, 0, none⟩)) := (b2.cell (p := ⟨w.heap.size, 0, none⟩) (by simp <;> omega)).trans (by simp)
    have e2 : w2.cell? ⟨w.heap.size + 1, 0, none⟩ = some (.int .u64 key) := (b2.cell (p := ⟨w.heap.size + 1, 0, none⟩) (by simp <;> omega)).trans (by simp)
    have m2 := (HM.out.below bw).1
    rw [HL.out] at m2
    obtain ⟨b, o, e, g0, g1⟩ := HX.out _ bw
    cases e
    go_wp2
    go_quiet (fail)
    go_wp2
    go_quiet (fail)
    go_wp2
    go_ret3
    exact ⟨by rw [HT.out]; rfl, below_drewN (below_drewN bw _) _⟩
def wT (l : List Pr) (lo hi : Int) : Value := .tuple #[.int .i64 (lowN l lo), .int .i64 (lowN l (hi + 1))]
set_option maxRecDepth 100000 in
set_option maxHeartbeats 2000000 in
theorem within_any (bm : Nat) (v : Value) (l : List Pr) (lo hi : Int) (w : World) (hm : MapAt w bm v l) (ha : Asc l) (hs : l.length ≤ 1000) :
    Calls Try.prog 62 #[.pointer (some ⟨bm, 0, none⟩), .agg #[.int .u64 lo, .int .u64 hi]] w fun e w' => e = .returned (wT l lo hi) ∧ Below w.heap.size w w' := by
  obtain ⟨A, c, rfl, hc, rd, hz⟩ := hm.rd
  have b0 : Below w.heap.size w ((w.alloc (.cells #[.pointer (some ⟨bm, 0, none⟩)] 52)).alloc (.cells #[.int .u64 lo, .int .u64 hi] 25)) := bel_alloc (bel_alloc (Below.refl _ _) _) _
  have HM := Lib.hid hm
  have hl1 : (l.length : Int) ≤ 1000 := by omega
  obtain ⟨n, hn⟩ : ∃ n, l.length = n := ⟨_, rfl⟩
  have hsz : w.heap.size + 2 = ((w.alloc (.cells #[.pointer (some ⟨bm, 0, none⟩)] 52)).alloc (.cells #[.int .u64 lo, .int .u64 hi] 25)).heap.size := by simp
  have e1 : ((w.alloc (.cells #[.pointer (some ⟨bm, 0, none⟩)] 52)).alloc (.cells #[.int .u64 lo, .int .u64 hi] 25)).cell? ⟨w.heap.size, 0, none⟩ = some (.pointer (some ⟨bm, 0, none⟩)) := by simp
  have e2 : ((w.alloc (.cells #[.pointer (some ⟨bm, 0, none⟩)] 52)).alloc (.cells #[.int .u64 lo, .int .u64 hi] 25)).cell? ⟨w.heap.size + 1, 0, none⟩ = some (.int .u64 lo) := by simp
  have e3 : ((w.alloc (.cells #[.pointer (some ⟨bm, 0, none⟩)] 52)).alloc (.cells #[.int .u64 lo, .int .u64 hi] 25)).cell? ⟨w.heap.size + 1, 1, none⟩ = some (.int .u64 hi) := by simp
  have H1 := Lib.hid (show ∀ W, Below ((w.alloc (.cells #[.pointer (some ⟨bm, 0, none⟩)] 52)).alloc (.cells #[.int .u64 lo, .int .u64 hi] 25)).heap.size ((w.alloc (.cells #[.pointer (some ⟨bm, 0, none⟩)] 52)).alloc (.cells #[.int .u64 lo, .int .u64 hi] 25)) W → Calls Try.prog 74 #[.int .i64 n, .func (.func 75) #[] #[.pointer (some ⟨w.heap.size, 0, none⟩), .pointer (some ⟨w.heap.size + 1, 0, none⟩)]] W fun e w' => e = .returned (.int .i64 (lowN l lo)) ∧ Below W.heap.size W w' from fun W bW => by
    have hS := search_any 75 w.heap.size (w.heap.size + 1) n (fun i => decide (lo ≤ (l.getD i (0, 0)).1)) W (enters_of Try.func75 (by kernel_rfl) rfl) (by omega)
      (fun W' b i hi' => withinCl1 w.heap.size (w.heap.size + 1) bm lo A n c i l W' hn (by omega) hi' ((b.cell (p := ⟨w.heap.size, 0, none⟩) (by have := bW.size; simp at this; simp <;> omega)).trans ((bW.cell (p := ⟨w.heap.size, 0, none⟩) (by simp <;> omega)).trans e1)) ((b.cell (p := ⟨w.heap.size + 1, 0, none⟩) (by have := bW.size; simp at this; simp <;> omega)).trans ((bW.cell (p := ⟨w.heap.size + 1, 0, none⟩) (by simp <;> omega)).trans e2))
        (by rw [← hn]; exact (hm.below (bel_trans (bel_trans b0 bW) b)).1) (rd.below (bel_trans (bel_trans b0 bW) b)))
      (fun a b hab hb h => by
        have h' : lo ≤ (l.getD a (0, 0)).1 := of_decide_eq_true h
        have := asc_le ha hab (by omega)
        exact decide_eq_true (by omega))
    rw [low_count l lo n hn] at hS
    exact hS)
  have H2 := Lib.hid (show ∀ W, Below ((w.alloc (.cells #[.pointer (some ⟨bm, 0, none⟩)] 52)).alloc (.cells #[.int .u64 lo, .int .u64 hi] 25)).heap.size ((w.alloc (.cells #[.pointer (some ⟨bm, 0, none⟩)] 52)).alloc (.cells #[.int .u64 lo, .int .u64 hi] 25)) W → Calls Try.prog 74 #[.int .i64 n, .func (.func 76) #[] #[.pointer (some ⟨w.heap.size, 0, none⟩), .pointer (some ⟨w.heap.size + 1, 0, none⟩)]] W fun e w' => e = .returned (.int .i64 (lowN l (hi + 1))) ∧ Below W.heap.size W w' from fun W bW => by
    have hS := search_any 76 w.heap.size (w.heap.size + 1) n (fun i => decide (hi < (l.getD i (0, 0)).1)) W (enters_of Try.func76 (by kernel_rfl) rfl) (by omega)
      (fun W' b i hi' => withinCl2 w.heap.size (w.heap.size + 1) bm hi A n c i l W' hn (by omega) hi' ((b.cell (p := ⟨w.heap.size, 0, none⟩) (by have := bW.size; simp at this; simp <;> omega)).trans ((bW.cell (p := ⟨w.heap.size, 0, none⟩) (by simp <;> omega)).trans e1)) ((b.cell (p := ⟨w.heap.size + 1, 1, none⟩) (by have := bW.size; simp at this; simp <;> omega)).trans ((bW.cell (p := ⟨w.heap.size + 1, 1, none⟩) (by simp <;> omega)).trans e3))
        (by rw [← hn]; exact (hm.below (bel_trans (bel_trans b0 bW) b)).1) (rd.below (bel_trans (bel_trans b0 bW) b)))
      (fun a b hab hb h => by
        have h' : hi < (l.getD a (0, 0)).1 := of_decide_eq_true h
        have := asc_le ha hab (by omega)
        exact decide_eq_true (by omega))
    rw [low_count' l hi n hn] at hS
    exact hS)
  have HL := Lib.hid hn
  have m0 := (HM.out.below b0).1
  rw [hn] at m0 hl1
  have HT := Lib.hid (show wT l lo hi = .tuple #[.int .i64 (lowN l lo), .int .i64 (lowN l (hi + 1))] from rfl)
  generalize lowN l lo = at1 at *
  generalize lowN l (hi + 1) = at2 at *
  clear hm rd hz hs hc hn ha hsz e1 e2 e3
  go_enter Try.func62, Try.ntmps62
  go_wp2_with fail
  refine (H1.out _ (Below.refl _ _)).mono ?_
  rintro r w2 ⟨rfl, b2⟩
  have bw := bel_trans b0 b2
  have e1 : w2.cell? ⟨w.heap.size, 0, none⟩ = some (.pointer (some ⟨bm, 0, none⟩)) := (b2.cell (p := ⟨w.heap.size, 0, none⟩) (by simp <;> omega)).trans (by simp)
  have m2 := (HM.out.below bw).1
  rw [HL.out] at m2
  have B2 := Lib.hid b2; clear b2
  go_wp2_with fail
  refine (H2.out _ B2.out).mono ?_
  rintro r w3 ⟨rfl, b3⟩
  go_wp2
  go_ret2
  exact ⟨by rw [HT.out]; rfl, bel_trans bw b3⟩
/-- the map's field set to a row that was changed in its place, or made anew -/
theorem MapAt.store {W w' : World} {bm : Nat} {v v' : Value} {l l' : List Pr} (hm : MapAt W bm v l) (hg : W.grownBy w' v.ownBlock) (hr : w'.ownsRow 0 43 2 v' l'.length (flat l')) (hv : v'.ownBlock = v.ownBlock ∨ v'.ownBlock = some W.heap.size) :
    w'.cell? ⟨bm, 0, none⟩ = some v ∧ w'.frozen? ⟨bm, 0, none⟩ = false ∧ MapAt (w'.setCell ⟨bm, 0, none⟩ v') bm v' l' ∧ Nx W v v' ∧ Chg bm v W (w'.setCell ⟨bm, 0, none⟩ v') := by
  have hlt := hm.lt
  have hb : w'.heap[bm]? = W.heap[bm]? := hg.block bm hlt fun e => hm.2.2.2 e.symm
  have hc : w'.cell? ⟨bm, 0, none⟩ = some v := (World.cell?_of_block (a := ⟨bm, 0, none⟩) hb).trans hm.1
  have hf : w'.frozen? ⟨bm, 0, none⟩ = false := (World.frozen?_of_block (a := ⟨bm, 0, none⟩) hb).trans hm.2.1
  have hne : v'.ownBlock ≠ some bm := fun e => by
    rcases hv with h | h
    · exact hm.2.2.2 (h.symm.trans e)
    · rw [e] at h; injection h with h; omega
  have hn : Nx W v v' := fun k hk => by
    rcases hv with h | h
    · exact .inl (h.symm.trans hk)
    · rw [hk] at h; injection h with h; exact .inr (by omega)
  refine ⟨hc, hf, ⟨World.cell?_setCell_same _ _ _ hc, by rw [World.frozen?_setCell]; exact hf, row_keep hr fun k hk => Below.heap_setCell w' ⟨bm, 0, none⟩ v' k (fun e => hne (hk.trans (by rw [e]))), hne⟩, hn, ⟨hg.os, hg.tape, hg.output, by simp; exact hg.size, fun k hk hb' hv' => (Below.heap_setCell w' ⟨bm, 0, none⟩ v' k hb').trans (hg.block k hk fun e => hv' e.symm)⟩⟩
theorem row_slice {w : World} {B n : Nat} {v : Value} {xs : List Value} (h : w.ownsRow B 43 2 v n xs) : ∃ A c, v = .slice A n c := by
  rcases h.2 with ⟨rfl, rfl⟩ | ⟨g, cap, cur, rfl, _⟩
  · exact ⟨_, _, rfl⟩
  · exact ⟨_, _, rfl⟩
end Om
end Go.Proofs.Ytbdllakbkienoaa
