/- PicksPartition: the walk. Conditions: the bounds of each argument's kind. -/
import Derived.Test.YtnoggggbghkgkaaWkPk2
namespace Go.Proofs.Ytnoggggbghkgkaa
open Go.RowKit Go.Shelf Go.Sort
set_option linter.unusedVariables false
set_option linter.unusedSimpArgs false
namespace Wk
open Pk
open Dm (RdK BdI bel_alloc bel_trans cell_lt flatI info info_parts row_rd app1 appAll addr_lit ret_eq)
def sumN (f : Nat → Nat) : Nat → Nat
  | 0 => 0
  | n + 1 => sumN f n + f n
theorem sumN_add (f g : Nat → Nat) : ∀ n, sumN (fun k => f k + g k) n = sumN f n + sumN g n
  | 0 => rfl
  | n + 1 => by simp only [sumN]; rw [sumN_add f g n]; omega
theorem sumN_off (x : Nat) : ∀ n, n ≤ x → sumN (fun k => if x = k then 1 else 0) n = 0
  | 0, _ => rfl
  | n + 1, h => by simp only [sumN]; rw [sumN_off x n (by omega), if_neg (by omega)]
theorem sumN_one {x : Nat} : ∀ n, x < n → sumN (fun k => if x = k then 1 else 0) n = 1
  | 0, h => by omega
  | n + 1, h => by
    simp only [sumN]
    by_cases e : x = n
    · subst e; rw [sumN_off x x (Nat.le_refl _), if_pos rfl]
    · rw [sumN_one n (by omega), if_neg e]
theorem sumN_zero : ∀ n, sumN (fun _ => 0) n = 0
  | 0 => rfl
  | n + 1 => by simp only [sumN]; rw [sumN_zero n]
theorem sum_cnt {T : Nat} : ∀ L : List (Fin 64), (∀ x ∈ L, x.val < T) → sumN (cntF L) T = L.length
  | [], _ => sumN_zero T
  | x :: L, h => by
    have e : cntF (x :: L) = fun k => cntF L k + if x.val = k then 1 else 0 := by
      funext k
      simp [cntF, List.countP_cons]
    rw [e, sumN_add, sum_cnt L (fun y hy => h y (List.mem_cons_of_mem _ hy)), sumN_one T (h x List.mem_cons_self), List.length_cons]
theorem sum_chL {T : Nat} (h1 : 1 ≤ T) (h2 : T ≤ 64) (l : List Int) : sumN (cntF (chL T l)) T = l.length := by
  rw [sum_cnt _ (fun x hx => ?_), chL_len]
  simp only [chL, List.mem_map] at hx
  obtain ⟨p, _, rfl⟩ := hx
  have a := chF_val h1 h2 p
  have b := ch_lt h1 p
  omega
theorem wo_cnt {T : Nat} (h1 : 1 ≤ T) (h2 : T ≤ 64) (t : Nat) : ∀ l : List Int, (woL T t l).length + cntF (chL T l) t = l.length
  | [] => rfl
  | p :: l => by
    have ih := wo_cnt h1 h2 t l
    have e := chF_val h1 h2 p
    have e1 : chL T (p :: l) = chF T p :: chL T l := rfl
    have e2 : cntF (chF T p :: chL T l) t = cntF (chL T l) t + if (chF T p).val = t then 1 else 0 := by simp [cntF, List.countP_cons]
    have e3 : woL T t (p :: l) = if p % (T : Int) = t then woL T t l else p :: woL T t l := by
      unfold woL
      rw [List.filter_cons]
      by_cases g : p % (T : Int) = t <;> simp [g]
    rw [e1, e2, e3]
    by_cases g : p % (T : Int) = t
    · rw [if_pos g, if_pos (by omega), List.length_cons]; omega
    · rw [if_neg g, if_neg (by omega), List.length_cons, List.length_cons]; omega
/-- the threads of a list without one -/
def wnL (t : Int) (l : List Int) : List Int := l.filter fun y => !(y == t)
theorem wnL_snoc (t : Int) (l : List Int) (y : Int) : wnL t (l ++ [y]) = if y = t then wnL t l else wnL t l ++ [y] := by
  unfold wnL
  rw [List.filter_append]
  by_cases e : y = t <;> simp [List.filter_cons, e]
theorem wnL_len (t : Int) (l : List Int) : (wnL t l).length ≤ l.length := List.length_filter_le _ _
theorem ch_wo (T : Nat) (t : Int) (l : List Int) : chI T (woL T t l) = wnL t (chI T l) := by
  unfold chI woL wnL
  rw [List.filter_map]
  rfl
theorem li_take {w : World} {A : Option Addr} {n m : Nat} {l : List Int} (h : RdK .i64 w A l) (hl : l.length = n) (hm : m ≤ n) (hx : m ≤ 100000) : Li w A m (l.take m) := by
  refine ⟨fun k hk => ?_, by rw [List.length_take]; omega, hx⟩
  have hkm : k < m := by rw [List.length_take] at hk; omega
  obtain ⟨b, o, e, c⟩ := h k (by omega)
  refine ⟨b, o, e, ?_⟩
  rw [c, List.getD_eq_getElem?_getD, List.getD_eq_getElem?_getD, List.getElem?_take, if_pos hkm]
theorem take_run (A : Option Addr) (n m c : Nat) (hm : m ≤ n) (hc : n ≤ c) : ∀ w : World, (Instr.sliceAt 22 (.slice A n c) none (some (.int .i64 m)) none).run Try.prog w = .ok (.slice A m c) w := fun w => by
  have u : Try.prog.underlying 22 = some (.slice (Try.prog.elem 22)) := by kernel_rfl
  have hmc : (m : Int) ≤ c := by omega
  simp [go_sem, Instr.sliceBounds, hmc, sliced]
theorem cntL_get {T j : Nat} {l : List Int} (h : j < T) : (cntL T l).getD j 0 = ((cntF (chL T l) j : Nat) : Int) := by
  simp [cntL, List.getD_eq_getElem?_getD, h]
theorem chI_get {T j : Nat} {l : List Int} (h : j < l.length) : (chI T l).getD j 0 = l.getD j 0 % (T : Int) := by
  simp [chI, List.getD_eq_getElem?_getD, h]
theorem threadsW (a : Int) : ∃ u : Nat, u < 64 ∧ ∀ w, Hid (Calls Try.prog 31 #[.int .i64 a, .int .i64 64] w fun e w' => e = .returned (.int .i64 (u : Int)) ∧ w = w') := by
  have t0 := Int.emod_nonneg a (show (64 : Int) ≠ 0 by omega)
  have t1 := Int.emod_lt_of_pos a (show (0 : Int) < 64 by omega)
  refine ⟨(a % 64).toNat, by omega, fun w => Lib.hid ?_⟩
  rw [show (((a % 64).toNat : Nat) : Int) = a % 64 by omega]
  exact mod_any a 64 (by omega) (by omega) w
set_option maxRecDepth 100000 in
set_option maxHeartbeats 2000000 in
theorem walk_picksPartition (a0 : Int) (a1 : Option Addr) (a1n a1c : Nat) (a1v : List Int) (w : World) (a0l : (-9223372036854775808) ≤ a0) (a0h : a0 ≤ 9223372036854775807) (a1e : a1v.length = a1n) (a1m : a1n ≤ maxLen) (a1r : Dm.RdK .i64 w a1 a1v) (a1b : Dm.BdI a1v) (a1z : a1 = none → a1c = 0) (a1y : a1n ≤ a1c ∧ a1c ≤ maxLen) :
    Calls Try.prog 7 #[.int .i64 a0, .slice a1 a1n a1c] w fun e w' => e = .returned (.bool true) ∧ Below w.heap.size w w' := by
  unfold maxLen at a1m a1y
  obtain ⟨u, hu, C0⟩ := threadsW a0
  obtain ⟨m, hm⟩ : ∃ m, min a1n 400 = m := ⟨_, rfl⟩
  have hmin : min (a1n : Int) 400 = (m : Int) := by omega
  have hm4 : m ≤ 400 := by omega
  have R1 := take_run a1 a1n m a1c (by omega) a1y.1
  have LX := Lib.hid (li_take a1r a1e (show m ≤ a1n by omega) (by omega))
  obtain ⟨xs, hxs⟩ : ∃ xs, a1v.take m = xs := ⟨_, rfl⟩
  rw [hxs] at LX
  have lxs := LX.out.ln
  have LXS := Lib.hid lxs
  clear a1r a1b a1e hxs hm lxs
  have u1 : (u : Int) < 64 := by omega
  have m1 : (m : Int) ≤ 400 := by omega
  have HU := Lib.hid (show (1 + (u : Int)).toNat = 1 + u by omega)
  have h8 : ((m : Int) != m) = false := by simp
  have h9 : (((1 + u : Nat) : Int) != 1 + (u : Int)) = false := by simp
  go_enter Try.func7, Try.ntmps7
  go_wp2
  go_quiet ((go_at_call 31; apply Hp.quiet_left; exact (C0 _).out))
  have L0 := Lib.hid (show Li (w.drewN nq) a1 m xs from ⟨LX.out.rd.drewN nq, LX.out.ln, LX.out.mx⟩)
  have B0 := Lib.hid (below_drewN (Below.refl w.heap.size w) nq)
  clear LX C0 R1
  have HSZ := Lib.hid (show (w.drewN nq).heap.size = w.heap.size from rfl)
  generalize w.drewN nq = wd at *
  go_wp2_with fail
  refine (chosen_ok (t := 1 + (u : Int)) L0.out (by omega) (by omega) (by omega)).mono ?_
  rw [HU.out]
  intro e w1 hp
  obtain ⟨A1, c1, rfl, _, _, li1, b1, _⟩ := li_len (n := m) hp (by simp [chI, LXS.out])
  clear hp
  have L1 := Lib.hid (L0.out.below b1)
  go_wp2_with fail
  refine (counts_ok (t := 1 + (u : Int)) L1.out (by omega) (by omega) (by omega)).mono ?_
  rw [HU.out]
  intro e w2 hp
  obtain ⟨A2, c2, rfl, _, _, li2, b2, _⟩ := li_len (n := 1 + u) hp (by simp [cntL])
  clear hp
  have K0 := Lib.hid (L1.out.below b2)
  have K1 := Lib.hid (li1.below b2)
  have K2 := Lib.hid li2
  have HB := Lib.hid (B0.out.trans ((bel_trans b1 b2).mono B0.out.size))
  have hui : ((1 + u : Nat) : Int) = 1 + (u : Int) := by omega
  have HWN := Lib.hid (fun t : Nat => ch_wo (1 + u) t xs)
  have HSUM := Lib.hid (sum_chL (T := 1 + u) (by omega) (by omega) xs)
  have HWO := Lib.hid (fun t : Nat => wo_cnt (T := 1 + u) (by omega) (by omega) t xs)
  have HCG := Lib.hid (fun (j : Nat) (h : j < m) => chI_get (T := 1 + u) (l := xs) (j := j) (by rw [LXS.out]; exact h))
  rw [hui] at HWN HWO HCG
  clear hui
  clear L0 L1 li1 li2 b1 b2 B0
  go_wp2
  go_loopw [9, 10] (fun s i wr => ∃ t : Nat, t ≤ 1 + u ∧ i = .int .i64 t ∧ s = .int .i64 (sumN (cntF (chL (1 + u) xs)) t : Nat) ∧ Below w2.heap.size w2 wr) (fun s i _ => (1 + u - intOf i).toNat)
  case atStart => exact ⟨0, Nat.zero_le _, rfl, rfl, Below.refl _ _⟩
  case round =>
    obtain ⟨t, ht, rfl, rfl, bel⟩ := hrel
    by_cases hlt : t < 1 + u
    · have t1 : (t : Int) < 1 + (u : Int) := by omega
      have d0 : decide ((t : Int) < 1 + (u : Int)) = true := decide_eq_true t1
      have hwo := HWO.out t
      have hsn : sumN (cntF (chL (1 + u) xs)) (t + 1) = sumN (cntF (chL (1 + u) xs)) t + cntF (chL (1 + u) xs) t := rfl
      have HSN := Lib.hid hsn
      obtain ⟨s0, hs0⟩ : ∃ s0, sumN (cntF (chL (1 + u) xs)) t = s0 := ⟨_, rfl⟩
      have HS0 := Lib.hid hs0
      have hc0 : cntF (chL (1 + u) xs) t ≤ 400 := by rw [LXS.out] at hwo; omega
      have hs4 : sumN (cntF (chL (1 + u) xs)) t ≤ 100000 := by
        have : ∀ k, sumN (cntF (chL (1 + u) xs)) k ≤ k * 400 := fun k => by
          induction k with
          | zero => exact Nat.zero_le _
          | succ k ih =>
            have := cntF_le (chL (1 + u) xs) k
            rw [chL_len, LXS.out] at this
            rw [sumN, Nat.succ_mul]; omega
        have := this t
        omega
      rw [hs0] at hs4
      obtain ⟨ct, hct⟩ : ∃ ct, cntF (chL (1 + u) xs) t = ct := ⟨_, rfl⟩
      have HCT := Lib.hid hct
      rw [hct] at hwo hc0
      rw [LXS.out] at hwo
      have HWL := Lib.hid hwo
      rw [hs0]
      clear hs0 hct hsn hwo
      have J0 := Lib.hid (K0.out.below bel)
      have J1 := Lib.hid (K1.out.below bel)
      have J2 := Lib.hid (K2.out.below bel)
      have HBR := Lib.hid bel
      clear bel
      go_wp2_with fail
      refine (without_ok (t := 1 + (u : Int)) (k := (t : Int)) J0.out (by omega) (by omega) (by omega) t1 (by omega)).mono ?_
      intro e w3 hp
      obtain ⟨n3, hn3⟩ : ∃ n3, (woL (1 + (u : Int)) (t : Int) xs).length = n3 := ⟨_, rfl⟩
      obtain ⟨A3, c3, rfl, _, _, li3, b3, _⟩ := li_len hp hn3
      have hn4 : n3 + ct = m := by rw [← hn3]; exact HWL.out
      clear hp hn3
      have I1 := Lib.hid (J1.out.below b3)
      have I2 := Lib.hid (J2.out.below b3)
      have I3 := Lib.hid li3
      have HB3 := Lib.hid (bel_trans HBR.out b3)
      clear J0 J1 J2 li3 b3 HBR
      go_wp2_with fail
      refine (chosen_ok (t := 1 + (u : Int)) I3.out (by omega) (by omega) (by omega)).mono ?_
      rw [HU.out]
      intro e w4 hp
      obtain ⟨A4, c4, rfl, _, _, li4, b4, _⟩ := li_len (n := n3) hp (by simp [chI, I3.out.ln])
      clear hp
      have G1 := Lib.hid (I1.out.below b4)
      have G2 := Lib.hid (I2.out.below b4)
      have G4 := Lib.hid li4
      have HB4 := Lib.hid (bel_trans HB3.out b4)
      clear I1 I2 I3 li4 b4 HB3
      go_wp2
      go_loopw [15, 16] (fun q i wy => ∃ j : Nat, j ≤ m ∧ i = .int .i64 j ∧ wy.ownsRow w4.heap.size 3 1 q (wnL t ((chI (1 + u) xs).take j)).length (flatI (wnL t ((chI (1 + u) xs).take j))) ∧ Below w4.heap.size w4 wy) (fun q i _ => (m - intOf i).toNat)
      case atStart => exact ⟨0, Nat.zero_le _, rfl, World.ownsRow_nil _ _ _ _, Below.refl _ _⟩
      case round =>
        obtain ⟨j, hj, rfl, ow, bely⟩ := hrel
        by_cases hlj : j < m
        · have OW := Lib.hid ow; clear ow
          have hsz := bely.size
          obtain ⟨b, o, rfl, g0⟩ := (G1.out.rd.below bely) j (by rw [G1.out.ln]; exact hlj)
          have HS := Lib.hid (wnL_snoc t ((chI (1 + u) xs).take j) ((chI (1 + u) xs).getD j 0))
          have HT := Lib.hid (take_get (l := chI (1 + u) xs) (k := j) (by rw [G1.out.ln]; exact hlj))
          obtain ⟨y, hy⟩ : ∃ y, (chI (1 + u) xs).getD j 0 = y := ⟨_, rfl⟩
          rw [hy] at g0 HS HT
          have hle := wnL_len t ((chI (1 + u) xs).take j)
          have hle2 := List.length_take_le j (chI (1 + u) xs)
          have e0 : decide ((j : Int) < m) = true := decide_eq_true (by omega)
          have j1 : (j : Int) < m := by omega
          clear hy
          by_cases hyt : y = (t : Int)
          · have HN := Lib.hid (show wnL t ((chI (1 + u) xs).take (j + 1)) = wnL t ((chI (1 + u) xs).take j) by rw [HT.out, HS.out, if_pos hyt])
            have e1 : (y != (t : Int)) = false := by simp [hyt]
            clear HS HT hyt
            go_wp2
            go_roundw
            case rel => exact ⟨j + 1, by omega, by go_num, by rw [HN.out]; exact OW.out, bely⟩
            case measure => simp [intOf]; omega
          · have HN := Lib.hid (show wnL t ((chI (1 + u) xs).take (j + 1)) = wnL t ((chI (1 + u) xs).take j) ++ [y] by rw [HT.out, HS.out, if_neg hyt])
            have e1 : (y != (t : Int)) = true := by simp [hyt]
            clear HS HT hyt
            generalize wnL t ((chI (1 + u) xs).take j) = L at *
            go_wp2_with (at_builtin; refine app1 rfl (.tmp 86) (.tmp 91) rfl wr w4.heap.size L.length _ L y rfl rfl OW.out (by omega) hsz ?_; intro v1 wv h1 b1)
            go_roundw
            case rel => exact ⟨j + 1, by omega, by go_num, by rw [HN.out, List.length_append]; exact h1, bely.trans b1⟩
            case measure => simp [intOf]; omega
        · obtain rfl : j = m := by omega
          have e0 : decide ((j : Int) < j) = false := by simp
          have HN := Lib.hid (show (chI (1 + u) xs).take j = chI (1 + u) xs from List.take_of_length_le (by rw [G1.out.ln]; exact Nat.le_refl _))
          rw [HN.out] at ow
          have hwl := wnL_len t (chI (1 + u) xs)
          obtain ⟨A5, c5, rfl, _, _, _, li5⟩ := row_li ow (by have := G1.out.ln; omega)
          have F5 := Lib.hid li5
          have F4 := Lib.hid (G4.out.below bely)
          have g2 := (G2.out.rd.below bely) t (by rw [G2.out.ln]; exact hlt)
          obtain ⟨b, o, rfl, g0⟩ := g2
          rw [cntL_get hlt, HCT.out] at g0
          have e1 : ((n3 : Int) != (j : Int) - ct) = false := by simp; omega
          have CE := Lib.hid (equ_same (c := c4) (d := c5) F4.out F5.out (HWN.out t))
          have HB5 := Lib.hid (HB4.out.trans (bely.mono HB4.out.size))
          have t2 : (t : Int) < ((1 + u : Nat) : Int) := by omega
          have z1 : -9223372036854775808 ≤ (j : Int) - ct := by omega
          have z2 : (j : Int) - ct ≤ 9223372036854775807 := by omega
          have z3 : (s0 : Int) + ct ≤ 200000 := by omega
          clear ow li5 bely F4 F5 HN
          go_wp2_with fail
          refine CE.out.mono ?_
          rintro e w5 ⟨rfl, b5⟩
          have g3 := (b5.cell (p := ⟨b, o + t, none⟩) (cell_lt g0)).trans g0
          have HB6 := Lib.hid (bel_trans HB5.out b5)
          go_wp2
          go_roundw
          case rel => exact ⟨t + 1, by omega, by go_num, by rw [HSN.out, HS0.out, HCT.out]; go_num, HB6.out⟩
          case measure => simp [intOf]; omega
    · obtain rfl : t = 1 + u := by omega
      have t1 : ((1 + u : Nat) : Int) = 1 + (u : Int) := by omega
      have d0 : decide (((1 + u : Nat) : Int) < 1 + (u : Int)) = false := decide_eq_false (by omega)
      have d1 : decide (1 + (u : Int) < 1 + (u : Int)) = false := by simp
      have HBE := Lib.hid (HB.out.trans (bel.mono HB.out.size))
      have hs := HSUM.out.trans LXS.out
      rw [hs]
      clear hs
      go_wp2_with fail
      refine (awake_any _).mono ?_
      rintro e w' ⟨rfl, b1⟩
      go_wp2
      go_ret
      exact ⟨rfl, HBE.out.trans (b1.mono HBE.out.size)⟩
end Wk
end Go.Proofs.Ytnoggggbghkgkaa
