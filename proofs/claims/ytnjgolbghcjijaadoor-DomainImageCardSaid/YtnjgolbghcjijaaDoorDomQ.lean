/- The functions of package domain on one map (areCuts, isMap, Check, Values, part): contracts of the translated code. Conditions: those of XDom. -/
import Derived.Test.YtnjgolbghcjijaaDoorDomV
namespace Go.Proofs.YtnjgolbghcjijaaDoor
open Go.RowKit Go.Sort
set_option linter.unusedVariables false
set_option linter.unusedSimpArgs false
namespace Dm
/-- the cut before the cut number j; 0 before the first -/
def bef (l : List Int) : Nat → Int
  | 0 => 0
  | j + 1 => l.getD j 0
def asc (l : List Int) (j : Nat) : Prop := (0 < j → l.getD 0 0 ≠ 0) ∧ upTo l j
theorem asc_zero (l : List Int) : asc l 0 := ⟨fun h => by omega, fun j h1 h2 => by omega⟩
theorem asc_succ {l : List Int} (h0 : 0 ≤ l.getD 0 0) {j : Nat} (h : asc l j) (hlt : bef l j < l.getD j 0) : asc l (j + 1) := by
  cases j with
  | zero => exact ⟨fun _ => by have : (0 : Int) < l.getD 0 0 := hlt; omega, upTo_one l⟩
  | succ j => exact ⟨fun _ => h.1 (by omega), upTo_succ h.2 hlt⟩
theorem asc_not {l : List Int} (h0 : 0 ≤ l.getD 0 0) {j n : Nat} (hn : j < n) (hlt : ¬ bef l j < l.getD j 0) : ¬ asc l n := fun h => by
  cases j with
  | zero =>
    have h1 := h.1 (by omega)
    have h2 : ¬ (0 : Int) < l.getD 0 0 := hlt
    omega
  | succ j => exact hlt (h.2 (j + 1) hn (by omega))
theorem okC_asc {l : List Int} (h1 : 1 ≤ l.length) (h2 : l.length ≤ 63) (h : asc l l.length) : okC l = true := okC_iff.2 ⟨h1, h2, h.1 (by omega), h.2⟩
theorem okC_nasc {l : List Int} (h : ¬ asc l l.length) : okC l = false := okC_not fun h' => h ⟨fun _ => h'.2.2.1, h'.2.2.2⟩
theorem areCuts_any (A : Option Addr) (m c : Nat) (l : List Int) (w : World) (hm : l.length = m) (hx : m ≤ maxLen) (hr : RdK .u64 w A l) (hd : BdU l) :
    Calls Tryd.prog 47 #[.slice A m c] w fun e w' => e = .returned (.bool (okC l)) ∧ w = w' := by
  have HR := Lib.hid hr; clear hr
  have HD := Lib.hid hd; clear hd
  have HM := Lib.hid hm; clear hm
  by_cases hb : 1 ≤ m ∧ m ≤ 63
  · obtain ⟨m1, m2⟩ := hb
    have t1 : decide ((m : Int) < 1) = false := by simp; omega
    have t2 : decide (63 < (m : Int)) = false := by simp; omega
    have H0 := Lib.hid (show 0 ≤ l.getD 0 0 from (HD.out 0 (by have := HM.out; omega)).1)
    go_enter Tryd.func47, Tryd.ntmps47
    go_wp2
    go_loop [3, 5, 16] (fun b u i => ∃ j : Nat, j ≤ m ∧ i = .int .i64 j ∧ b = .int .u64 (bef l j) ∧ asc l j) (fun b u i => m - (intOf i).toNat)
    case atStart => exact ⟨0, by omega, rfl, rfl, asc_zero l⟩
    case round =>
      obtain ⟨j, hj, rfl, rfl, ha⟩ := hrel
      have HA := Lib.hid ha; clear ha
      by_cases hlt : j < m
      · obtain ⟨x0, x1⟩ := HD.out j (by have := HM.out; omega)
        obtain ⟨b, o, rfl, g0⟩ := HR.out j (by have := HM.out; omega)
        by_cases hle : bef l j < l.getD j 0
        · have HL := Lib.hid (asc_succ H0.out HA.out hle)
          have HB := Lib.hid (show bef l (j + 1) = l.getD j 0 from rfl)
          generalize l.getD j 0 = u at x0 x1 g0 hle HB
          generalize bef l j = v at hle
          have t4 : decide (u ≤ v) = false := by simp; omega
          go_wp2
          go_round
          case rel => exact ⟨j + 1, by omega, by go_num, by rw [HB.out], HL.out⟩
          case measure => simp [intOf]; omega
        · have HL := Lib.hid (okC_nasc (asc_not (n := l.length) H0.out (by have := HM.out; omega) hle))
          generalize l.getD j 0 = u at x0 x1 g0 hle
          generalize bef l j = v at hle
          have t4 : decide (u ≤ v) = true := by simp; omega
          go_wp2
          go_ret
          exact ⟨by rw [HL.out] <;> rfl, rfl⟩
      · obtain rfl : j = m := by omega
        have HL := Lib.hid (okC_asc (l := l) (by have := HM.out; omega) (by have := HM.out; omega) (by rw [HM.out]; exact HA.out))
        go_wp2
        go_ret
        exact ⟨by rw [HL.out] <;> rfl, rfl⟩
  · have HO := Lib.hid (show okC l = false from okC_not (by have := HM.out; omega))
    by_cases h1 : m = 0
    · subst h1
      go_enter Tryd.func47, Tryd.ntmps47
      go_wp2
      go_ret
      exact ⟨by rw [HO.out] <;> rfl, rfl⟩
    · have t1 : decide ((m : Int) < 1) = false := by simp; omega
      have t2 : decide (63 < (m : Int)) = true := by simp; omega
      go_enter Tryd.func47, Tryd.ntmps47
      go_wp2
      go_ret
      exact ⟨by rw [HO.out] <;> rfl, rfl⟩
theorem isMap_any (k n : Int) (A : Option Addr) (m c : Nat) (l : List Int) (w : World) (kl : 0 ≤ k) (kh : k ≤ 255) (nl : -9223372036854775808 ≤ n) (nh : n ≤ 9223372036854775807) (hm : l.length = m) (hx : m ≤ maxLen) (hr : RdK .u64 w A l) (hd : BdU l) :
    Calls Tryd.prog 38 #[.agg #[.int .u8 k, .int .i64 n, .slice A m c]] w fun e w' => e = .returned (.bool (dmB k n l)) ∧ Below w.heap.size w w' := by
  have HR := Lib.hid hr; clear hr
  have HD := Lib.hid hd; clear hd
  have HM := Lib.hid hm; clear hm
  have b0 : Below w.heap.size w (w.alloc (Obj.cells #[.int .u8 k, .int .i64 n, .slice A m c] 24)) := bel_alloc (Below.refl _ _) _
  by_cases h1 : k = 1
  · subst h1
    by_cases hb : n = 0
    · subst hb
      by_cases hb2 : m = 0
      · subst hb2
        have HB := Lib.hid (show dmB 1 0 l = true by simp [dmB, HM.out])
        go_enter Tryd.func38, Tryd.ntmps38
        go_wp2
        go_ret
        exact ⟨by rw [HB.out] <;> rfl, b0⟩
      · have HB := Lib.hid (show dmB 1 0 l = false by simp [dmB, HM.out, hb2])
        have t1 : ((m : Int) == 0) = false := by simp [hb2]
        go_enter Tryd.func38, Tryd.ntmps38
        go_wp2
        go_ret
        exact ⟨by rw [HB.out] <;> rfl, b0⟩
    · have HB := Lib.hid (show dmB 1 n l = false by simp [dmB, hb])
      have t1 : (n == 0) = false := by simp [hb]
      go_enter Tryd.func38, Tryd.ntmps38
      go_wp2
      go_ret
      exact ⟨by rw [HB.out] <;> rfl, b0⟩
  by_cases h2 : k = 2
  · subst h2
    clear h1
    by_cases hb : 1 ≤ n ∧ n ≤ 64
    · obtain ⟨n1, n2⟩ := hb
      by_cases hb2 : m = 0
      · subst hb2
        have HB := Lib.hid (show dmB 2 n l = true by simp [dmB, HM.out]; omega)
        have t1 : decide (1 ≤ n) = true := by simp; omega
        have t2 : decide (n ≤ 64) = true := by simp; omega
        go_enter Tryd.func38, Tryd.ntmps38
        go_wp2
        go_ret
        exact ⟨by rw [HB.out] <;> rfl, b0⟩
      · have HB := Lib.hid (show dmB 2 n l = false by simp [dmB, HM.out, hb2])
        have t0 : ((m : Int) == 0) = false := by simp [hb2]
        have t1 : decide (1 ≤ n) = true := by simp; omega
        have t2 : decide (n ≤ 64) = true := by simp; omega
        go_enter Tryd.func38, Tryd.ntmps38
        go_wp2
        go_ret
        exact ⟨by rw [HB.out] <;> rfl, b0⟩
    · have HB := Lib.hid (show dmB 2 n l = false by simp [dmB]; omega)
      by_cases hb1 : 1 ≤ n
      · have t1 : decide (1 ≤ n) = true := by simp; omega
        have t2 : decide (n ≤ 64) = false := by simp; omega
        go_enter Tryd.func38, Tryd.ntmps38
        go_wp2
        go_ret
        exact ⟨by rw [HB.out] <;> rfl, b0⟩
      · have t1 : decide (1 ≤ n) = false := by simp; omega
        go_enter Tryd.func38, Tryd.ntmps38
        go_wp2
        go_ret
        exact ⟨by rw [HB.out] <;> rfl, b0⟩
  by_cases h3 : k = 3
  · subst h3
    clear h1 h2
    by_cases hb : n = 0
    · subst hb
      have HB := Lib.hid (show dmB 3 0 l = okC l by simp [dmB])
      have CA := fun W h => Lib.hid (areCuts_any A m c l W HM.out hx h HD.out)
      generalize okC l = q at HB CA
      go_enter Tryd.func38, Tryd.ntmps38
      go_wp2_with fail
      refine (CA _ (HR.out.below b0)).out.mono ?_
      rintro r w1 ⟨rfl, rfl⟩
      go_wp2
      go_ret
      exact ⟨by rw [HB.out] <;> rfl, b0⟩
    · have HB := Lib.hid (show dmB 3 n l = false by simp [dmB, hb])
      have t1 : (n == 0) = false := by simp [hb]
      go_enter Tryd.func38, Tryd.ntmps38
      go_wp2
      go_ret
      exact ⟨by rw [HB.out] <;> rfl, b0⟩
  · have HB := Lib.hid (show dmB k n l = false by simp [dmB, h1, h2, h3])
    go_enter Tryd.func38, Tryd.ntmps38
    go_wp2
    go_ret
    exact ⟨by rw [HB.out] <;> rfl, b0⟩
theorem check_any (k n : Int) (A : Option Addr) (m c : Nat) (l : List Int) (w : World) (kl : 0 ≤ k) (kh : k ≤ 255) (nl : -9223372036854775808 ≤ n) (nh : n ≤ 9223372036854775807) (hm : l.length = m) (hx : m ≤ maxLen) (hr : RdK .u64 w A l) (hd : BdU l) :
    Calls Tryd.prog 20 #[.agg #[.int .u8 k, .int .i64 n, .slice A m c]] w fun e w' => e = .returned (.int .i64 (dmE k n l)) ∧ Below w.heap.size w w' := by
  have HR := Lib.hid hr; clear hr
  have b0 : Below w.heap.size w (w.alloc (Obj.cells #[.int .u8 k, .int .i64 n, .slice A m c] 24)) := bel_alloc (Below.refl _ _) _
  have CM := fun W h => Lib.hid (isMap_any k n A m c l W kl kh nl nh hm hx h hd)
  have HE := Lib.hid (show dmE k n l = if dmB k n l = true then 0 else 2 from rfl)
  generalize dmB k n l = q at CM HE
  clear hm
  cases q with
  | true =>
    go_enter Tryd.func20, Tryd.ntmps20
    go_wp2_with fail
    refine (CM _ (by first | exact HR.out.below b0 | exact HR.out)).out.mono ?_
    rintro r w1 ⟨rfl, b1⟩
    go_wp2
    go_ret
    exact ⟨by rw [HE.out]; rfl, by first | exact bel_trans b0 b1 | exact b1⟩
  | false =>
    go_enter Tryd.func20, Tryd.ntmps20
    go_wp2_with fail
    refine (CM _ (by first | exact HR.out.below b0 | exact HR.out)).out.mono ?_
    rintro r w1 ⟨rfl, b1⟩
    go_wp2
    go_ret
    exact ⟨by rw [HE.out]; rfl, by first | exact bel_trans b0 b1 | exact b1⟩
theorem values_any (k n : Int) (A : Option Addr) (m c : Nat) (l : List Int) (w : World) (kl : 0 ≤ k) (kh : k ≤ 255) (nl : -9223372036854775808 ≤ n) (nh : n ≤ 9223372036854775807) (hm : l.length = m) (hx : m ≤ maxLen) (hr : RdK .u64 w A l) (hd : BdU l) :
    Calls Tryd.prog 14 #[.agg #[.int .u8 k, .int .i64 n, .slice A m c]] w fun e w' => e = .returned (.tuple #[.int .i64 (dmN k n l), .int .i64 (dmE k n l)]) ∧ Below w.heap.size w w' := by
  have HR := Lib.hid hr; clear hr
  have HD := Lib.hid hd; clear hd
  have HM := Lib.hid hm; clear hm
  have b0 : Below w.heap.size w (w.alloc (Obj.cells #[.int .u8 k, .int .i64 n, .slice A m c] 24)) := bel_alloc (Below.refl _ _) _
  have C := fun W h => Lib.hid (check_any k n A m c l W kl kh nl nh HM.out hx h HD.out)
  cases hb : dmB k n l with
  | false =>
    have HE := Lib.hid (dmE_no hb)
    have HN := Lib.hid (dmN_no hb)
    go_enter Tryd.func14, Tryd.ntmps14
    go_wp2_with fail
    refine (C _ (HR.out.below b0)).out.mono ?_
    rw [HE.out]
    rintro r w1 ⟨rfl, b1⟩
    go_wp2
    go_ret2
    exact ⟨by rw [HN.out, HE.out]; rfl, bel_trans b0 b1⟩
  | true =>
    have HE := Lib.hid (dmE_yes hb)
    rcases dm_forms hb with ⟨rfl, rfl, rfl, hN, hV⟩ | ⟨rfl, n1, n2, rfl, hN, hV⟩ | ⟨rfl, rfl, l1, l2, hu, hN, hV⟩
    · have HN := Lib.hid hN
      clear hV hN hb
      go_enter Tryd.func14, Tryd.ntmps14
      go_wp2_with fail
      refine (C _ (HR.out.below b0)).out.mono ?_
      rw [HE.out]
      rintro r w1 ⟨rfl, b1⟩
      obtain ⟨kc, kf⟩ := bcell b1
      have e0 : w1.cell? ⟨w.heap.size, 0, none⟩ = some (.int .u8 1) := by rw [kc _ _ (by simp)]; simp
      clear kc kf
      go_wp2
      go_ret2
      exact ⟨by rw [HN.out, HE.out]; rfl, bel_trans b0 b1⟩
    · have HN := Lib.hid hN
      clear hV hN hb
      go_enter Tryd.func14, Tryd.ntmps14
      go_wp2_with fail
      refine (C _ (HR.out.below b0)).out.mono ?_
      rw [HE.out]
      rintro r w1 ⟨rfl, b1⟩
      obtain ⟨kc, kf⟩ := bcell b1
      have e0 : w1.cell? ⟨w.heap.size, 0, none⟩ = some (.int .u8 2) := by rw [kc _ _ (by simp)]; simp
      have e1 : w1.cell? ⟨w.heap.size, 1, none⟩ = some (.int .i64 n) := by rw [kc _ _ (by simp)]; simp
      clear kc kf
      go_wp2
      go_ret2
      exact ⟨by rw [HN.out, HE.out]; rfl, bel_trans b0 b1⟩
    · have HN := Lib.hid hN
      clear hV hN hb
      have hl1 : (m : Int) ≤ 63 := by have := HM.out; omega
      go_enter Tryd.func14, Tryd.ntmps14
      go_wp2_with fail
      refine (C _ (HR.out.below b0)).out.mono ?_
      rw [HE.out]
      rintro r w1 ⟨rfl, b1⟩
      obtain ⟨kc, kf⟩ := bcell b1
      have e0 : w1.cell? ⟨w.heap.size, 0, none⟩ = some (.int .u8 3) := by rw [kc _ _ (by simp)]; simp
      have e2 : w1.cell? ⟨w.heap.size, 2, none⟩ = some (.slice A m c) := by rw [kc _ _ (by simp)]; simp
      clear kc kf
      go_wp2
      go_ret2
      exact ⟨by rw [HN.out, HM.out, HE.out]; rfl, bel_trans b0 b1⟩
/-- the ends of the keys of a value, in the map with these cuts -/
def ptL (l : List Int) : Nat → Int
  | 0 => 0
  | v + 1 => l.getD v 0
def ptH (l : List Int) (v : Nat) : Int := if v < l.length then l.getD v 0 - 1 else 18446744073709551615
theorem part_any (A : Option Addr) (m c v : Nat) (l : List Int) (w : World) (hm : l.length = m) (hx : m ≤ maxLen) (hv : v ≤ m) (hm63 : m ≤ 63) (hp : ∀ k, k < l.length → 1 ≤ l.getD k 0) (hr : RdK .u64 w A l) (hd : BdU l) :
    Calls Tryd.prog 49 #[.slice A m c, .int .i64 v] w fun e w' => e = .returned (.agg #[.int .u64 (ptL l v), .int .u64 (ptH l v)]) ∧ Below w.heap.size w w' := by
  have HR := Lib.hid hr; clear hr
  have HD := Lib.hid hd; clear hd
  have HM := Lib.hid hm; clear hm
  have HP := Lib.hid hp; clear hp
  have hmi : (m : Int) ≤ 63 := by omega
  rcases v with _ | v
  · by_cases hlt : 0 < m
    · obtain ⟨y0, y1⟩ := HD.out 0 (by have := HM.out; omega)
      have y2 := HP.out 0 (by have := HM.out; omega)
      obtain ⟨b, o, rfl, g0⟩ := HR.out 0 (by have := HM.out; omega)
      have hbl := cell_lt g0
      rw [Nat.add_zero] at g0
      have HO := Lib.hid (show ptL l 0 = 0 ∧ ptH l 0 = l.getD 0 0 - 1 from ⟨rfl, if_pos (by have := HM.out; omega)⟩)
      generalize l.getD 0 0 = y at y0 y1 y2 g0 HO
      have hi : (0 : Int) < m := by omega
      go_enter Tryd.func49, Tryd.ntmps49
      go_wp2
      refine bodyPost_ret (v := .agg #[.int .u64 0, .int .u64 (y - 1)]) (by simp [results, Tryd.results49, go_sem]) rfl ⟨?_, ?_⟩
      · rw [HO.out.1, HO.out.2]
      · exact bel_trans (bel_alloc (bel_alloc (Below.refl _ _) _) _) (Below.refl _ _)
    · obtain rfl : m = 0 := by omega
      have HO := Lib.hid (show ptL l 0 = 0 ∧ ptH l 0 = 18446744073709551615 from ⟨rfl, if_neg (by have := HM.out; omega)⟩)
      go_enter Tryd.func49, Tryd.ntmps49
      go_wp2
      refine bodyPost_ret (v := .agg #[.int .u64 0, .int .u64 18446744073709551615]) (by simp [results, Tryd.results49, go_sem]) rfl ⟨?_, ?_⟩
      · rw [HO.out.1, HO.out.2]
      · exact bel_trans (bel_alloc (bel_alloc (Below.refl _ _) _) _) (Below.refl _ _)
  · obtain ⟨x0, x1⟩ := HD.out v (by have := HM.out; omega)
    obtain ⟨b, o, rfl, g1⟩ := HR.out v (by have := HM.out; omega)
    have hbl := cell_lt g1
    by_cases hlt : v + 1 < m
    · obtain ⟨y0, y1⟩ := HD.out (v + 1) (by have := HM.out; omega)
      have y2 := HP.out (v + 1) (by have := HM.out; omega)
      obtain ⟨b', o', e', g2⟩ := HR.out (v + 1) (by have := HM.out; omega)
      cases e'
      have HO := Lib.hid (show ptL l (v + 1) = l.getD v 0 ∧ ptH l (v + 1) = l.getD (v + 1) 0 - 1 from ⟨rfl, if_pos (by have := HM.out; omega)⟩)
      generalize l.getD v 0 = x at x0 x1 g1 HO
      generalize l.getD (v + 1) 0 = y at y0 y1 y2 g2 HO
      have hi : ((v : Int) + 1 : Int) < m := by omega
      go_enter Tryd.func49, Tryd.ntmps49
      go_wp2
      refine bodyPost_ret (v := .agg #[.int .u64 x, .int .u64 (y - 1)]) (by simp [results, Tryd.results49, go_sem]) rfl ⟨?_, ?_⟩
      · rw [HO.out.1, HO.out.2]
      · exact bel_trans (bel_alloc (bel_alloc (Below.refl _ _) _) _) (Below.refl _ _)
    · obtain rfl : v + 1 = m := by omega
      have HO := Lib.hid (show ptL l (v + 1) = l.getD v 0 ∧ ptH l (v + 1) = 18446744073709551615 from ⟨rfl, if_neg (by have := HM.out; omega)⟩)
      generalize l.getD v 0 = x at x0 x1 g1 HO
      go_enter Tryd.func49, Tryd.ntmps49
      go_wp2
      refine bodyPost_ret (v := .agg #[.int .u64 x, .int .u64 18446744073709551615]) (by simp [results, Tryd.results49, go_sem]) rfl ⟨?_, ?_⟩
      · rw [HO.out.1, HO.out.2]
      · exact bel_trans (bel_alloc (bel_alloc (Below.refl _ _) _) _) (Below.refl _ _)
end Dm
end Go.Proofs.YtnjgolbghcjijaaDoor
