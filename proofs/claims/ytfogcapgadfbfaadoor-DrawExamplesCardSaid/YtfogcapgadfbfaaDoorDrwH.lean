/- Heights of package draw and of leapfrogref04, and leapfroglaw04.same: contracts of the translated code. Conditions: the bounds of each argument's kind; Tz for the code's Heights. -/
import Derived.Test.YtfogcapgadfbfaaDoorDrw
namespace Go.Proofs.YtfogcapgadfbfaaDoor
open Go.RowKit Go.Sort
set_option linter.unusedVariables false
set_option linter.unusedSimpArgs false
namespace Dr
open Dm
theorem ext_getD {l r : List Int} {n : Nat} (hl : l.length = n) (hr : r.length = n) (h : ∀ t, t < n → l.getD t 0 = r.getD t 0) : l = r := by
  refine List.ext_getElem (by omega) fun t h1 h2 => ?_
  have := h t (by omega)
  rw [List.getD_eq_getElem?_getD, List.getD_eq_getElem?_getD, List.getElem?_eq_getElem h1, List.getElem?_eq_getElem h2] at this
  simpa using this
/-- the outcome of Heights -/
def HPost (s : Nat) (n : Int) (w : World) (e : Ending) (w' : World) : Prop :=
  if n < 0 then e = .returned (.tuple #[.slice none 0 0, .int .i64 2]) ∧ w = w'
  else if 1024 < n then e = .returned (.tuple #[.slice none 0 0, .int .i64 5]) ∧ w = w'
  else (∃ v, e = .returned (.tuple #[v, .int .i64 0]) ∧ w'.ownsRow w.heap.size 3 1 v n.toNat (flatI (hgL s n.toNat))) ∧ Below w.heap.size w w'
theorem made_flat (n : Nat) : (madeCells (Value.int .i64 0).cells (n * 1)).toList = flatI (List.replicate n 0) := by
  refine List.ext_getElem (by simp [madeCells, flatI]) fun t h1 h2 => ?_
  simp [madeCells, flatI, Value.cells, Nat.mod_one]
theorem flat_set (l : List Int) (j : Nat) (x : Int) : (flatI l).set j (.int .i64 x) = flatI (l.set j x) := by simp [flatI, List.map_set]
theorem getD_set_self {l : List Int} {j : Nat} (x : Int) (h : j < l.length) : (l.set j x).getD j 0 = x := by
  rw [List.getD_eq_getElem?_getD, List.getElem?_set_self h]; rfl
theorem getD_set_other {l : List Int} {j t : Nat} (x : Int) (h : j ≠ t) : (l.set j x).getD t 0 = l.getD t 0 := by
  rw [List.getD_eq_getElem?_getD, List.getElem?_set_ne h, List.getD_eq_getElem?_getD]
/-- a cell of a row of the call's own -/
theorem own_cell {w : World} {base g c n : Nat} {l : List Int} (h : w.ownsRow base 3 1 (.slice (some ⟨g, 0, none⟩) n c) n (flatI l)) (hl : l.length = n) {j : Nat} (hj : j < n) : w.cell? ⟨g, j, none⟩ = some (.int .i64 (l.getD j 0)) := by
  rw [h.cellAt _ (by omega)]
  simp only [flatI, List.getElem?_map, List.getElem?_eq_getElem (show j < l.length by omega), List.getD_eq_getElem?_getD]
  rfl
theorem bel_grown {W w w' : World} {row : Option Nat} (h : Below W.heap.size W w) (hg : w.grownBy w' row) (hr : ∀ g, row = some g → W.heap.size ≤ g) : Below W.heap.size W w' := h.grown hg h.size hr
set_option maxHeartbeats 1000000 in
theorem heights_any (s : Nat) (n : Int) (hs : s < M64) (nl : -9223372036854775808 ≤ n) (nh : n ≤ 9223372036854775807) (w : World) (hT : Tz w) :
    Calls Tryd.prog 14 #[.int .u64 s, .int .i64 n] w (HPost s n w) := by
  by_cases h0 : n < 0
  · have HP := Lib.hid (show ∀ e w', HPost s n w e w' ↔ e = .returned (.tuple #[.slice none 0 0, .int .i64 2]) ∧ w = w' from fun e w' => by unfold HPost; rw [if_pos h0])
    go_enter Tryd.func14, Tryd.ntmps14
    go_wp2
    go_ret2
    exact (HP.out _ _).2 ⟨rfl, rfl⟩
  by_cases h1 : 1024 < n
  · have HP := Lib.hid (show ∀ e w', HPost s n w e w' ↔ e = .returned (.tuple #[.slice none 0 0, .int .i64 5]) ∧ w = w' from fun e w' => by unfold HPost; rw [if_neg h0, if_pos h1])
    go_enter Tryd.func14, Tryd.ntmps14
    go_wp2
    go_ret2
    exact (HP.out _ _).2 ⟨rfl, rfl⟩
  obtain ⟨N, rfl⟩ := Int.eq_ofNat_of_zero_le (show 0 ≤ n by omega)
  have HP := Lib.hid (show ∀ e w', HPost s (N : Int) w e w' ↔ (∃ v, e = .returned (.tuple #[v, .int .i64 0]) ∧ w'.ownsRow w.heap.size 3 1 v N (flatI (hgL s N))) ∧ Below w.heap.size w w' from fun e w' => by unfold HPost; rw [if_neg h0, if_neg h1]; rfl)
  have hN : N ≤ 1024 := by omega
  obtain ⟨i0, hi, hz0, hz1, hz2⟩ := info_parts info
  have HT := Lib.hid hT
  clear h0 h1 nl nh hT
  have CM := fun (i : Nat) (hi : i ≤ 1024) W => Lib.hid (mix_any s i hs (by omega) (by omega) W)
  have CH := fun (i : Nat) W h => Lib.hid (height_any (mixN s i) (mixN_lt s i) W h)
  clear hs
  go_enter Tryd.func14, Tryd.ntmps14
  go_wp2_with (at_make; refine wpList_make_full _ rfl _ _ 26 rfl w.heap.size 3 i0 (.int .i64 0) 1 Tryd.underlying26 hi hz0 hz1 .i64 .i64 _ _ N rfl rfl rfl rfl (by rw [hz2]; omega) (by unfold maxLen; omega) (Nat.le_refl _) ?_; intro w1 hown hgrow)
  rw [made_flat] at hown
  have b1 : Below w.heap.size w w1 := (Below.refl _ w).grown hgrow (Nat.le_refl _) fun g h => by cases h
  clear hgrow hi hz0 hz1 hz2
  go_loopw [16] (fun i wr => ∃ (j : Nat) (l : List Int), j ≤ N ∧ i = .int .i64 j ∧ wr.ownsRow w.heap.size 3 1 (.slice (some ⟨w.heap.size, 0, none⟩) N N) N (flatI l) ∧ l.length = N ∧ (∀ t, t < j → l.getD t 0 = ((hgt (mixN s t) : Nat) : Int)) ∧ Below w.heap.size w wr) (fun i _ => (N - intOf i).toNat)
  case atStart => exact ⟨0, _, Nat.zero_le _, rfl, hown, List.length_replicate, fun t h => absurd h (Nat.not_lt_zero _), b1⟩
  case round =>
    clear hown b1
    obtain ⟨j, l, hj, rfl, ow, hl, hE, bel⟩ := hrel
    by_cases hlt : j < N
    · have c0 := own_cell ow hl hlt
      have f0 := ow.frozenAt j
      have OW := Lib.hid ow; clear ow
      have HE := Lib.hid hE; clear hE
      have HL := Lib.hid hl; clear hl
      have CMj := CM j (by omega) wr
      rw [ix_nat (show j < M64 by show j < 18446744073709551616; omega)] at CMj
      have CHj := CH j wr (HT.out.below bel)
      generalize hz : mixN s j = z at CMj CHj
      have HZ := Lib.hid hz; clear hz
      generalize hq : ((hgt z : Nat) : Int) = q at CHj
      have HQ := Lib.hid hq; clear hq
      have t0 : decide ((j : Int) < N) = true := decide_eq_true (by omega)
      go_wp2_with fail
      refine CMj.out.mono ?_
      rintro r w2 ⟨rfl, rfl⟩
      go_wp2_with fail
      refine CHj.out.mono ?_
      rintro r w2 ⟨rfl, rfl⟩
      go_wp2
      go_roundw
      case rel =>
        refine ⟨j + 1, l.set j q, by omega, by go_num, ?_, by rw [List.length_set, HL.out], fun t ht => ?_, bel.setCell (p := ⟨w.heap.size, j, none⟩) (Nat.le_refl _) _⟩
        · rw [← flat_set]; exact (OW.out.stored j _).1
        · by_cases e : t = j
          · subst e
            rw [getD_set_self _ (by have := HL.out; omega), HZ.out, HQ.out]
          · rw [getD_set_other _ (fun h => e h.symm)]
            exact HE.out t (by omega)
      case measure => simp [intOf]; omega
    · obtain rfl : j = N := by omega
      have hll : l = hgL s j := ext_getD hl (hgL_len s j) fun t ht => by rw [hE t ht, hgL_at s ht]
      subst hll
      have OW := Lib.hid ow
      clear ow hE hl CM CH
      have t0 : decide ((j : Int) < j) = false := decide_eq_false (by omega)
      go_wp2
      go_ret2
      exact (HP.out _ _).2 ⟨⟨_, rfl, OW.out⟩, bel⟩
set_option maxHeartbeats 1000000 in
theorem heightsR_any (s : Nat) (n : Int) (hs : s < M64) (nl : -9223372036854775808 ≤ n) (nh : n ≤ 9223372036854775807) (w : World) :
    Calls Tryd.prog 15 #[.int .u64 s, .int .i64 n] w (HPost s n w) := by
  by_cases h0 : n < 0
  · have HP := Lib.hid (show ∀ e w', HPost s n w e w' ↔ e = .returned (.tuple #[.slice none 0 0, .int .i64 2]) ∧ w = w' from fun e w' => by unfold HPost; rw [if_pos h0])
    go_enter Tryd.func15, Tryd.ntmps15
    go_wp2
    go_ret2
    exact (HP.out _ _).2 ⟨rfl, rfl⟩
  by_cases h1 : 1024 < n
  · have HP := Lib.hid (show ∀ e w', HPost s n w e w' ↔ e = .returned (.tuple #[.slice none 0 0, .int .i64 5]) ∧ w = w' from fun e w' => by unfold HPost; rw [if_neg h0, if_pos h1])
    go_enter Tryd.func15, Tryd.ntmps15
    go_wp2
    go_ret2
    exact (HP.out _ _).2 ⟨rfl, rfl⟩
  obtain ⟨N, rfl⟩ := Int.eq_ofNat_of_zero_le (show 0 ≤ n by omega)
  have HP := Lib.hid (show ∀ e w', HPost s (N : Int) w e w' ↔ (∃ v, e = .returned (.tuple #[v, .int .i64 0]) ∧ w'.ownsRow w.heap.size 3 1 v N (flatI (hgL s N))) ∧ Below w.heap.size w w' from fun e w' => by unfold HPost; rw [if_neg h0, if_neg h1]; rfl)
  have hN : N ≤ 1024 := by omega
  clear h0 h1 nl nh
  have CM := fun (i : Nat) (hi : i ≤ 1024) W => Lib.hid (mixR_any s i hs (by omega) (by omega) W)
  have CH := fun (i : Nat) W => Lib.hid (heightR_any (mixN s i) (mixN_lt s i) W)
  clear hs
  go_enter Tryd.func15, Tryd.ntmps15
  go_wp2
  go_loopw [6, 7] (fun q i wr => ∃ (j : Nat), j ≤ N ∧ i = .int .i64 j ∧ wr.ownsRow w.heap.size 3 1 q j (flatI (hgL s j)) ∧ Below w.heap.size w wr) (fun q i _ => (N - intOf i).toNat)
  case atStart => exact ⟨0, Nat.zero_le _, rfl, World.ownsRow_nil _ _ _ _, Below.refl _ _⟩
  case round =>
    obtain ⟨j, hj, rfl, ow, bel⟩ := hrel
    by_cases hlt : j < N
    · have OW := Lib.hid ow; clear ow
      have hsz := bel.size
      have CMj := CM j (by omega) wr
      rw [ix_nat (show j < M64 by show j < 18446744073709551616; omega)] at CMj
      have CHj := CH j wr
      have HN := Lib.hid (show hgL s (j + 1) = hgL s j ++ [((hgt (mixN s j) : Nat) : Int)] from rfl)
      generalize mixN s j = z at CMj CHj HN
      generalize ((hgt z : Nat) : Int) = q at CHj HN
      have t0 : decide ((j : Int) < N) = true := decide_eq_true (by omega)
      go_wp2_with fail
      refine CMj.out.mono ?_
      rintro r w2 ⟨rfl, rfl⟩
      go_wp2_with fail
      refine CHj.out.mono ?_
      rintro r w2 ⟨rfl, rfl⟩
      go_wp2_with (at_builtin; refine app1 rfl (.tmp 17) (.tmp 22) rfl wr w.heap.size j _ (hgL s j) q rfl rfl OW.out (by omega) hsz ?_; intro v1 w1 h1 b1)
      go_roundw
      case rel => exact ⟨j + 1, by omega, by go_num, by rw [HN.out]; exact h1, bel.trans (b1.mono (Nat.le_refl _))⟩
      case measure => simp [intOf]; omega
    · obtain rfl : j = N := by omega
      have OW := Lib.hid ow
      clear ow CM CH
      have t0 : decide ((j : Int) < j) = false := decide_eq_false (by omega)
      go_wp2
      go_ret2
      exact (HP.out _ _).2 ⟨⟨_, rfl, OW.out⟩, bel⟩
theorem same_any (A B : Option Addr) (m c q d : Nat) (l r : List Int) (w : World) (hm : l.length = m) (hq : r.length = q) (hx : m ≤ maxLen) (hy : q ≤ maxLen) (hl : RdK .i64 w A l) (hr : RdK .i64 w B r) :
    Calls Tryd.prog 16 #[.slice A m c, .slice B q d] w fun e w' => e = .returned (.bool (decide (l = r))) ∧ Below w.heap.size w w' := by
  unfold maxLen at hx hy
  have HL := Lib.hid hl; clear hl
  have HR := Lib.hid hr; clear hr
  have HM := Lib.hid hm; clear hm
  have HQ := Lib.hid hq; clear hq
  by_cases hmq : m = q
  · subst hmq
    have t0 : ((m : Int) != m) = false := by simp
    go_enter Tryd.func16, Tryd.ntmps16
    go_wp2
    go_loopw [5] (fun i wr => ∃ j : Nat, j ≤ m ∧ i = .int .i64 j ∧ (∀ t, t < j → l.getD t 0 = r.getD t 0) ∧ Below w.heap.size w wr) (fun i _ => (m - intOf i).toNat)
    case atStart => exact ⟨0, Nat.zero_le _, rfl, fun t h => absurd h (Nat.not_lt_zero _), Below.refl _ _⟩
    case round =>
      obtain ⟨j, hj, rfl, hE, bel⟩ := hrel
      have HE := Lib.hid hE; clear hE
      by_cases hlt : j < m
      · obtain ⟨b, o, rfl, g0⟩ := (HL.out.below bel) j (by have := HM.out; omega)
        obtain ⟨b', o', rfl, g1⟩ := (HR.out.below bel) j (by have := HQ.out; omega)
        have t1 : decide ((j : Int) < m) = true := by simp; omega
        by_cases hxy : l.getD j 0 = r.getD j 0
        · have HN := Lib.hid (show ∀ t, t < j + 1 → l.getD t 0 = r.getD t 0 from fun t ht => by
            by_cases h : t < j
            · exact HE.out t h
            · obtain rfl : t = j := by omega
              exact hxy)
          rw [← hxy] at g1
          clear hxy
          generalize l.getD j 0 = u at g0 g1
          go_wp2
          (try go_quiet (fail))
          (try go_wp2)
          go_roundw
          case rel => exact ⟨j + 1, by omega, by go_num, HN.out, below_drewN bel _⟩
          case measure => simp [intOf]; omega
        · have HN := Lib.hid (show ¬ l = r from fun h => hxy (by rw [h]))
          generalize l.getD j 0 = u at g0 hxy
          generalize r.getD j 0 = v at g1 hxy
          have t2 : (u != v) = true := by simp [hxy]
          go_wp2
          (try go_quiet (fail))
          (try go_wp2)
          go_ret
          exact ⟨ret_eq (congrArg Value.bool (decide_eq_false HN.out).symm), below_drewN bel _⟩
      · obtain rfl : j = m := by omega
        have HN := Lib.hid (show l = r from ext_getD HM.out HQ.out HE.out)
        have t1 : decide ((j : Int) < j) = false := by simp
        go_wp2
        go_ret
        exact ⟨ret_eq (congrArg Value.bool (decide_eq_true HN.out).symm), bel⟩
  · have HN := Lib.hid (show ¬ l = r from fun h => hmq (by rw [← HM.out, ← HQ.out, h]))
    have t0 : ((m : Int) != q) = true := by simp; omega
    go_enter Tryd.func16, Tryd.ntmps16
    go_wp2
    go_ret
    exact ⟨ret_eq (congrArg Value.bool (decide_eq_false HN.out).symm), Below.refl _ _⟩
end Dr
end Go.Proofs.YtfogcapgadfbfaaDoor
