/- PicksRounds: the walk. Conditions: the bounds of each argument's kind. -/
import Derived.Test.YtnoggggbghkgkaaWkPk1
namespace Go.Proofs.Ytnoggggbghkgkaa
open Go.RowKit Go.Shelf Go.Sort
set_option linter.unusedVariables false
set_option linter.unusedSimpArgs false
namespace Wk
open Pk
open Dm (RdK BdI bel_alloc bel_trans cell_lt flatI info info_parts row_rd app1 appAll addr_lit ret_eq)
theorem li_len {l : List Int} {n : Nat} {w w' : World} {e : Ending} (h : LiPost l w e w') (hn : l.length = n) : ∃ A c, e = .returned (.tuple #[.slice A n c, .int .i64 0]) ∧ n ≤ c ∧ (A = none → c = 0) ∧ Li w' A n l ∧ Below w.heap.size w w' ∧ w'.ownsRow w.heap.size 3 1 (.slice A n c) n (flatI l) := by
  subst hn; exact h
/-- mod(x, m) -/
theorem modN_any (a : Int) (m : Nat) (h1 : 1 ≤ m) (h2 : m ≤ 1000) (w : World) : ∃ u : Nat, u < m ∧ Hid (Calls Try.prog 31 #[.int .i64 a, .int .i64 (m : Int)] w fun e w' => e = .returned (.int .i64 (u : Int)) ∧ w = w') := by
  have t0 := Int.emod_nonneg a (show (m : Int) ≠ 0 by omega)
  have t1 := Int.emod_lt_of_pos a (show (0 : Int) < m by omega)
  refine ⟨(a % m).toNat, by omega, Lib.hid ?_⟩
  rw [show (((a % m).toNat : Nat) : Int) = a % m by omega]
  exact mod_any a m h1 h2 w
theorem rdL_get {t : Int} {n j : Nat} (h : j < n) : (rdL t n).getD j 0 = ((j : Nat) : Int) % t := by
  simp [rdL, List.getD_eq_getElem?_getD, h]
theorem mxL_get {s : Nat} {t : Int} {n j : Nat} (h : j < n) : (mxL s t n).getD j 0 = mxP t.toNat (mxN s j) := by
  simp [mxL, List.getD_eq_getElem?_getD, h]
theorem mxP_bd {T x : Nat} (h : 1 ≤ T) : 0 ≤ mxP T x ∧ mxP T x < T := by
  unfold mxP
  have := Nat.mod_lt (mx x / 8589934592) (show 0 < T by omega)
  omega
theorem rd_ne {T j k : Nat} (h1 : k < j) (h2 : j < k + T) : ((k : Nat) : Int) % (T : Int) ≠ ((j : Nat) : Int) % (T : Int) := by
  intro h
  have h' : k % T = j % T := by
    have : ((k % T : Nat) : Int) = ((j % T : Nat) : Int) := by simpa using h
    omega
  have e1 := Nat.div_add_mod k T
  have e2 := Nat.div_add_mod j T
  rw [h'] at e1
  have hle : k / T ≤ j / T := Nat.div_le_div_right (by omega)
  rcases Nat.lt_or_ge (k / T) (j / T) with g | g
  · have : T * (k / T) + T ≤ T * (j / T) := by
      have := Nat.mul_le_mul_left T (show k / T + 1 ≤ j / T by omega)
      rwa [Nat.mul_add, Nat.mul_one] at this
    omega
  · have : k / T = j / T := by omega
    rw [this] at e1
    omega
set_option maxRecDepth 100000 in
set_option maxHeartbeats 2000000 in
theorem walk_picksRounds (a0 : Int) (a1 : Int) (a2 : Int) (w : World) (a0l : 0 ≤ a0) (a0h : a0 ≤ 18446744073709551615) (a1l : (-9223372036854775808) ≤ a1) (a1h : a1 ≤ 9223372036854775807) (a2l : (-9223372036854775808) ≤ a2) (a2h : a2 ≤ 9223372036854775807) :
    Calls Try.prog 10 #[.int .u64 a0, .int .i64 a1, .int .i64 a2] w fun e w' => e = .returned (.bool true) ∧ Below w.heap.size w w' := by
  obtain ⟨u, hu, C0⟩ := threads_any a1 w
  obtain ⟨n, hn, C1⟩ := modN_any a2 301 (by omega) (by omega) w
  obtain ⟨s, rfl⟩ := Int.eq_ofNat_of_zero_le a0l
  have u1 : (u : Int) < 64 := by omega
  have n1 : (n : Int) < 301 := by omega
  have CR := fun (W : World) => Lib.hid (round_ok (t := 1 + (u : Int)) (n := (n : Int)) (w := W) (by omega) (by omega) (by omega) (by omega))
  have CM := fun (W : World) => Lib.hid (mixed_ok (s := s) (t := 1 + (u : Int)) (n := (n : Int)) (w := W) (by omega) (by omega) (by omega) (by omega) (by omega))
  have CN := fun (W : World) => Lib.hid (mixed_ok (s := s) (t := 1 + (u : Int)) (n := (n : Int) + 7) (w := W) (by omega) (by omega) (by omega) (by omega) (by omega))
  rw [Int.toNat_natCast] at CR CM
  rw [show ((n : Int) + 7).toNat = n + 7 by omega] at CN
  have h7 : (((n + 7 : Nat) : Int) != (n : Int) + 7) = false := by simp
  have h8 : ((n : Int) != n) = false := by simp
  have C1' : Hid (Calls Try.prog 31 #[.int .i64 a2, .int .i64 301] w fun e w' => e = .returned (.int .i64 (n : Int)) ∧ w = w') := C1
  clear C1
  go_enter Try.func10, Try.ntmps10
  go_wp2_with fail
  refine C0.out.mono ?_
  rintro e w' ⟨rfl, rfl⟩
  go_wp2_with fail
  refine C1'.out.mono ?_
  rintro e w' ⟨rfl, rfl⟩
  go_wp2_with fail
  refine (CR _).out.mono ?_
  intro e w1 hp
  obtain ⟨A1, c1, rfl, _, _, li1, b1, _⟩ := li_len (n := n) hp (by simp [rdL])
  clear hp
  go_wp2_with fail
  refine (CM _).out.mono ?_
  intro e w2 hp
  obtain ⟨A2, c2, rfl, _, _, li2, b2, _⟩ := li_len (n := n) hp (by simp [mxL])
  clear hp
  go_wp2_with fail
  refine (CN _).out.mono ?_
  intro e w3 hp
  obtain ⟨A3, c3, rfl, _, _, li3, b3, _⟩ := li_len (n := n + 7) hp (by simp [mxL])
  clear hp
  have L1 := Lib.hid ((li1.below b2).below b3)
  have L2 := Lib.hid (li2.below b3)
  have L3 := Lib.hid li3
  have B3 := Lib.hid (bel_trans (bel_trans b1 b2) b3)
  clear li1 li2 li3 b1 b2 b3 CR CM CN
  go_wp2
  go_loopw [13] (fun i wr => ∃ j : Nat, j ≤ n ∧ i = .int .i64 j ∧ Below w3.heap.size w3 wr) (fun i _ => (n - intOf i).toNat)
  case atStart => exact ⟨0, Nat.zero_le _, rfl, Below.refl _ _⟩
  case round =>
    obtain ⟨j, hj, rfl, bel⟩ := hrel
    by_cases hlt : j < n
    · obtain ⟨p1, o1, rfl, g1⟩ := (L1.out.rd.below bel) j (by rw [L1.out.ln]; exact hlt)
      obtain ⟨p2, o2, rfl, g2⟩ := (L2.out.rd.below bel) j (by rw [L2.out.ln]; exact hlt)
      obtain ⟨p3, o3, rfl, g3⟩ := (L3.out.rd.below bel) j (by rw [L3.out.ln]; omega)
      rw [rdL_get hlt] at g1
      rw [mxL_get hlt] at g2
      rw [mxL_get (by omega)] at g3
      have y1 := mxP_bd (T := (1 + (u : Int)).toNat) (x := mxN s j) (by omega)
      obtain ⟨y, hy⟩ : ∃ y, mxP (1 + (u : Int)).toNat (mxN s j) = y := ⟨_, rfl⟩
      rw [hy] at g2 g3 y1
      have x0 := Int.emod_nonneg (j : Int) (show 1 + (u : Int) ≠ 0 by omega)
      have x1 := Int.emod_lt_of_pos (j : Int) (show 0 < 1 + (u : Int) by omega)
      obtain ⟨x, hx⟩ : ∃ x, (j : Int) % (1 + (u : Int)) = x := ⟨_, rfl⟩
      rw [hx] at g1 x0 x1
      have HX := Lib.hid hx
      have HB := Lib.hid bel
      have d0 : decide ((j : Int) < n) = true := decide_eq_true (by omega)
      have d1 : decide (x < 0) = false := decide_eq_false (by omega)
      have d2 : decide (1 + (u : Int) ≤ x) = false := decide_eq_false (by omega)
      have d3 : decide (y < 0) = false := decide_eq_false (by omega)
      have d4 : decide (1 + (u : Int) ≤ y) = false := decide_eq_false (by omega)
      have d5 : (y != y) = false := by simp
      have j1 : (j : Int) < n := by omega
      have j2 : (j : Int) < ((n + 7 : Nat) : Int) := by omega
      clear hx hy bel
      go_wp2
      go_quiet (fail)
      go_wp2
      have HW := Lib.hid (below_drewN HB.out nq)
      have G1 := Lib.hid (show (wr.drewN nq).cell? ⟨p1, o1 + j, none⟩ = some (.int .i64 x) from g1)
      clear g1 g2 g3 HB
      generalize wr.drewN nq = wo at *
      go_loopw [14] (fun k wy => ∃ q : Nat, q ≤ j ∧ j < q + (1 + u) ∧ k = .int .i64 q ∧ Below wo.heap.size wo wy) (fun k _ => (j - intOf k).toNat)
      case atStart => exact ⟨(max 0 ((j : Int) - (1 + (u : Int)) + 1)).toNat, by omega, by omega, congrArg (Value.int .i64) (by omega), Below.refl _ _⟩
      case round =>
        obtain ⟨q, hq, hqj, rfl, bely⟩ := hrel
        by_cases hql : q < j
        · obtain ⟨p1', o1', e1, k1⟩ := (((L1.out.rd.below HW.out)).below bely) q (by rw [L1.out.ln]; omega)
          cases e1
          rw [rdL_get (by omega)] at k1
          have k2 : wr.cell? ⟨p1, o1 + j, none⟩ = some (.int .i64 x) := (bely.cell (p := ⟨p1, o1 + j, none⟩) (cell_lt G1.out)).trans G1.out
          have hne := rd_ne (T := 1 + u) hql (by omega)
          rw [show (((1 + u : Nat)) : Int) = 1 + (u : Int) by omega, HX.out] at hne
          obtain ⟨z, hz⟩ : ∃ z, (q : Int) % (1 + (u : Int)) = z := ⟨_, rfl⟩
          rw [hz] at k1 hne
          have e0 : (z == x) = false := by simp [hne]
          have e1 : decide ((q : Int) < j) = true := decide_eq_true (by omega)
          have q1 : (q : Int) < n := by omega
          clear hz hne
          go_wp2
          go_quiet (fail)
          go_wp2
          go_roundw
          case rel => exact ⟨q + 1, by omega, by omega, by go_num, below_drewN bely _⟩
          case measure => simp [intOf]; omega
        · obtain rfl : q = j := by omega
          have e1 : decide ((q : Int) < q) = false := by simp
          have HF := Lib.hid (HW.out.trans (bely.mono HW.out.size))
          go_wp2
          go_roundw
          case rel => exact ⟨q + 1, by omega, by go_num, HF.out⟩
          case measure => simp [intOf]; omega
    · obtain rfl : j = n := by omega
      have d0 : decide ((j : Int) < j) = false := by simp
      have HB := Lib.hid (B3.out.trans (bel.mono B3.out.size))
      go_wp2_with fail
      refine (awake_any _).mono ?_
      rintro e w' ⟨rfl, b1⟩
      go_wp2
      go_ret
      exact ⟨rfl, HB.out.trans (b1.mono HB.out.size)⟩
end Wk
end Go.Proofs.Ytnoggggbghkgkaa
