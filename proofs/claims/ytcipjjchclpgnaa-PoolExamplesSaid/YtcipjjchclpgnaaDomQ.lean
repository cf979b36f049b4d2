/- The functions of package domain on one map (areCuts, isMap, Check, Values, part): contracts of the translated code. Conditions: those of XDom. -/
import Derived.Test.YtcipjjchclpgnaaDomV
namespace Go.Proofs.Ytcipjjchclpgnaa
open Go.RowKit Go.Sort
set_option linter.unusedVariables false
set_option linter.unusedSimpArgs false
set_option maxRecDepth 100000
namespace Dm
/-- the cut before the cut number j; 0 before the first -/
def bef (l : List Int) : Nat → Int
  | 0 => 0
  | j + 1 => l.getD j 0
def asc (l : List Int) (j : Nat) : Prop := (0 < j → l.getD 0 0 ≠ 0) ∧ upTo l j
theorem asc_zero (l : List Int) : asc l 0 := ⟨fun h => by omega, fun j h1 h2 => by omega⟩
theorem asc_succ {l : List Int} (h0 : 0 ≤ l.getD 0 0) {j : Nat} (h : asc l j) (hlt : bef l j < l.getD j 0) : asc l (j + 1) := by
  cases j with
  | zero => exact ⟨fun _ => by have : (0 : Int) < l.getD 0 0 := hlt; omega, upTo_one l⟩
  | succ j => exact ⟨fun _ => h.1 (by omega), upTo_succ h.2 hlt⟩
theorem asc_not {l : List Int} (h0 : 0 ≤ l.getD 0 0) {j n : Nat} (hn : j < n) (hlt : ¬ bef l j < l.getD j 0) : ¬ asc l n := fun h => by
  cases j with
  | zero =>
    have h1 := h.1 (by omega)
    have h2 : ¬ (0 : Int) < l.getD 0 0 := hlt
    omega
  | succ j => exact hlt (h.2 (j + 1) hn (by omega))
theorem okC_asc {l : List Int} (h1 : 1 ≤ l.length) (h2 : l.length ≤ 63) (h : asc l l.length) : okC l = true := okC_iff.2 ⟨h1, h2, h.1 (by omega), h.2⟩
theorem okC_nasc {l : List Int} (h : ¬ asc l l.length) : okC l = false := okC_not fun h' => h ⟨fun _ => h'.2.2.1, h'.2.2.2⟩
theorem areCuts_any (A : Option Addr) (m c : Nat) (l : List Int) (w : World) (hm : l.length = m) (hx : m ≤ maxLen) (hr : RdK .u64 w A l) (hd : BdU l) :
    Calls Try.prog 81 #[.slice A m c] w fun e w' => e = .returned (.bool (okC l)) ∧ w = w' := by
  have HR := Lib.hid hr; clear hr
  have HD := Lib.hid hd; clear hd
  have HM := Lib.hid hm; clear hm
  by_cases hb : 1 ≤ m ∧ m ≤ 63
  · obtain ⟨m1, m2⟩ := hb
    have t1 : decide ((m : Int) < 1) = false := by simp; omega
    have t2 : decide (63 < (m : Int)) = false := by simp; omega
    have H0 := Lib.hid (show 0 ≤ l.getD 0 0 from (HD.out 0 (by have := HM.out; omega)).1)
    go_enter Try.func81, Try.ntmps81
    go_wp2
    go_loop [3, 5, 16] (fun b u i => ∃ j : Nat, j ≤ m ∧ i = .int .i64 j ∧ b = .int .u64 (bef l j) ∧ asc l j) (fun b u i => m - (intOf i).toNat)
    case atStart => exact ⟨0, by omega, rfl, rfl, asc_zero l⟩
    case round =>
      obtain ⟨j, hj, rfl, rfl, ha⟩ := hrel
      have HA := Lib.hid ha; clear ha
      by_cases hlt : j < m
      · obtain ⟨x0, x1⟩ := HD.out j (by have := HM.out; omega)
        obtain ⟨b, o, rfl, g0⟩ := HR.out j (by have := HM.out; omega)
        by_cases hle : bef l j < l.getD j 0
        · have HL := Lib.hid (asc_succ H0.out HA.out hle)
          have HB := Lib.hid (show bef l (j + 1) = l.getD j 0 from rfl)
          generalize l.getD j 0 = u at x0 x1 g0 hle HB
          generalize bef l j = v at hle
          have t4 : decide (u ≤ v) = false := by simp; omega
          go_wp2
          go_round
          case rel => exact ⟨j + 1, by omega, by go_num, by rw [HB.out], HL.out⟩
          case measure => simp [intOf]; omega
        · have HL := Lib.hid (okC_nasc (asc_not (n := l.length) H0.out (by have := HM.out; omega) hle))
          generalize l.getD j 0 = u at x0 x1 g0 hle
          generalize bef l j = v at hle
          have t4 : decide (u ≤ v) = true := by simp; omega
          go_wp2
          go_ret
          exact ⟨by rw [HL.out] <;> rfl, rfl⟩
      · obtain rfl : j = m := by omega
        have HL := Lib.hid (okC_asc (l := l) (by have := HM.out; omega) (by have := HM.out; omega) (by rw [HM.out]; exact HA.out))
        go_wp2
        go_ret
        exact ⟨by rw [HL.out] <;> rfl, rfl⟩
  · have HO := Lib.hid (show okC l = false from okC_not (by have := HM.out; omega))
    by_cases h1 : m = 0
    · subst h1
      go_enter Try.func81, Try.ntmps81
      go_wp2
      go_ret
      exact ⟨by rw [HO.out] <;> rfl, rfl⟩
    · have t1 : decide ((m : Int) < 1) = false := by simp; omega
      have t2 : decide (63 < (m : Int)) = true := by simp; omega
      go_enter Try.func81, Try.ntmps81
      go_wp2
      go_ret
      exact ⟨by rw [HO.out] <;> rfl, rfl⟩
theorem isMap_any (k n : Int) (A : Option Addr) (m c : Nat) (l : List Int) (w : World) (kl : 0 ≤ k) (kh : k ≤ 255) (nl : -9223372036854775808 ≤ n) (nh : n ≤ 9223372036854775807) (hm : l.length = m) (hx : m ≤ maxLen) (hr : RdK .u64 w A l) (hd : BdU l) :
    Calls Try.prog 74 #[.agg #[.int .u8 k, .int .i64 n, .slice A m c]] w fun e w' => e = .returned (.bool (dmB k n l)) ∧ Below w.heap.size w w' := by
  have HR := Lib.hid hr; clear hr
  have HD := Lib.hid hd; clear hd
  have HM := Lib.hid hm; clear hm
  have b0 : Below w.heap.size w (w.alloc (Obj.cells #[.int .u8 k, .int .i64 n, .slice A m c] 28)) := bel_alloc (Below.refl _ _) _
  by_cases h1 : k = 1
  · subst h1
    by_cases hb : n = 0
    · subst hb
      by_cases hb2 : m = 0
      · subst hb2
        have HB := Lib.hid (show dmB 1 0 l = true by simp [dmB, HM.out])
        go_enter Try.func74, Try.ntmps74
        go_wp2
        go_ret
        exact ⟨by rw [HB.out] <;> rfl, b0⟩
      · have HB := Lib.hid (show dmB 1 0 l = false by simp [dmB, HM.out, hb2])
        have t1 : ((m : Int) == 0) = false := by simp [hb2]
        go_enter Try.func74, Try.ntmps74
        go_wp2
        go_ret
        exact ⟨by rw [HB.out] <;> rfl, b0⟩
    · have HB := Lib.hid (show dmB 1 n l = false by simp [dmB, hb])
      have t1 : (n == 0) = false := by simp [hb]
      go_enter Try.func74, Try.ntmps74
      go_wp2
      go_ret
      exact ⟨by rw [HB.out] <;> rfl, b0⟩
  by_cases h2 : k = 2
  · subst h2
    clear h1
    by_cases hb : 1 ≤ n ∧ n ≤ 64
    · obtain ⟨n1, n2⟩ := hb
      by_cases hb2 : m = 0
      · subst hb2
        have HB := Lib.hid (show dmB 2 n l = true by simp [dmB, HM.out]; omega)
        have t1 : decide (1 ≤ n) = true := by simp; omega
        have t2 : decide (n ≤ 64) = true := by simp; omega
        go_enter Try.func74, Try.ntmps74
        go_wp2
        go_ret
        exact ⟨by rw [HB.out] <;> rfl, b0⟩
      · have HB := Lib.hid (show dmB 2 n l = false by simp [dmB, HM.out, hb2])
        have t0 : ((m : Int) == 0) = false := by simp [hb2]
        have t1 : decide (1 ≤ n) = true := by simp; omega
        have t2 : decide (n ≤ 64) = true := by simp; omega
        go_enter Try.func74, Try.ntmps74
        go_wp2
        go_ret
        exact ⟨by rw [HB.out] <;> rfl, b0⟩
    · have HB := Lib.hid (show dmB 2 n l = false by simp [dmB]; omega)
      by_cases hb1 : 1 ≤ n
      · have t1 : decide (1 ≤ n) = true := by simp; omega
        have t2 : decide (n ≤ 64) = false := by simp; omega
        go_enter Try.func74, Try.ntmps74
        go_wp2
        go_ret
        exact ⟨by rw [HB.out] <;> rfl, b0⟩
      · have t1 : decide (1 ≤ n) = false := by simp; omega
        go_enter Try.func74, Try.ntmps74
        go_wp2
        go_ret
        exact ⟨by rw [HB.out] <;> rfl, b0⟩
  by_cases h3 : k = 3
  · subst h3
    clear h1 h2
    by_cases hb : n = 0
    · subst hb
      have HB := Lib.hid (show dmB 3 0 l = okC l by simp [dmB])
      have CA := fun W h => Lib.hid (areCuts_any A m c l W HM.out hx h HD.out)
      generalize okC l = q at HB CA
      go_enter Try.func74, Try.ntmps74
      go_wp2_with fail
      refine (CA _ (HR.out.below b0)).out.mono ?_
      rintro r w1 ⟨rfl, rfl⟩
      go_wp2
      go_ret
      exact ⟨by rw [HB.out] <;> rfl, b0⟩
    · have HB := Lib.hid (show dmB 3 n l = false by simp [dmB, hb])
      have t1 : (n == 0) = false := by simp [hb]
      go_enter Try.func74, Try.ntmps74
      go_wp2
      go_ret
      exact ⟨by rw [HB.out] <;> rfl, b0⟩
  · have HB := Lib.hid (show dmB k n l = false by simp [dmB, h1, h2, h3])
    go_enter Try.func74, Try.ntmps74
    go_wp2
    go_ret
    exact ⟨by rw [HB.out] <;> rfl, b0⟩
theorem check_any (k n : Int) (A : Option Addr) (m c : Nat) (l : List Int) (w : World) (kl : 0 ≤ k) (kh : k ≤ 255) (nl : -9223372036854775808 ≤ n) (nh : n ≤ 9223372036854775807) (hm : l.length = m) (hx : m ≤ maxLen) (hr : RdK .u64 w A l) (hd : BdU l) :
    Calls Try.prog 56 #[.agg #[.int .u8 k, .int .i64 n, .slice A m c]] w fun e w' => e = .returned (.int .i64 (dmE k n l)) ∧ Below w.heap.size w w' := by
  have HR := Lib.hid hr; clear hr
  have b0 : Below w.heap.size w (w.alloc (Obj.cells #[.int .u8 k, .int .i64 n, .slice A m c] 28)) := bel_alloc (Below.refl _ _) _
  have CM := fun W h => Lib.hid (isMap_any k n A m c l W kl kh nl nh hm hx h hd)
  have HE := Lib.hid (show dmE k n l = if dmB k n l = true then 0 else 2 from rfl)
  generalize dmB k n l = q at CM HE
  clear hm
  cases q with
  | true =>
    go_enter Try.func56, Try.ntmps56
    go_wp2_with fail
    refine (CM _ (by first | exact HR.out.below b0 | exact HR.out)).out.mono ?_
    rintro r w1 ⟨rfl, b1⟩
    go_wp2
    go_ret
    exact ⟨by rw [HE.out]; rfl, by first | exact bel_trans b0 b1 | exact b1⟩
  | false =>
    go_enter Try.func56, Try.ntmps56
    go_wp2_with fail
    refine (CM _ (by first | exact HR.out.below b0 | exact HR.out)).out.mono ?_
    rintro r w1 ⟨rfl, b1⟩
    go_wp2
    go_ret
    exact ⟨by rw [HE.out]; rfl, by first | exact bel_trans b0 b1 | exact b1⟩
theorem values_any (k n : Int) (A : Option Addr) (m c : Nat) (l : List Int) (w : World) (kl : 0 ≤ k) (kh : k ≤ 255) (nl : -9223372036854775808 ≤ n) (nh : n ≤ 9223372036854775807) (hm : l.length = m) (hx : m ≤ maxLen) (hr : RdK .u64 w A l) (hd : BdU l) :
    Calls Try.prog 29 #[.agg #[.int .u8 k, .int .i64 n, .slice A m c]] w fun e w' => e = .returned (.tuple #[.int .i64 (dmN k n l), .int .i64 (dmE k n l)]) ∧ Below w.heap.size w w' := by
  have HR := Lib.hid hr; clear hr
  have HD := Lib.hid hd; clear hd
  have HM := Lib.hid hm; clear hm
  have b0 : Below w.heap.size w (w.alloc (Obj.cells #[.int .u8 k, .int .i64 n, .slice A m c] 28)) := bel_alloc (Below.refl _ _) _
  have C := fun W h => Lib.hid (check_any k n A m c l W kl kh nl nh HM.out hx h HD.out)
  cases hb : dmB k n l with
  | false =>
    have HE := Lib.hid (dmE_no hb)
    have HN := Lib.hid (dmN_no hb)
    go_enter Try.func29, Try.ntmps29
    go_wp2_with fail
    refine (C _ (HR.out.below b0)).out.mono ?_
    rw [HE.out]
    rintro r w1 ⟨rfl, b1⟩
    go_wp2
    go_ret2
    exact ⟨by rw [HN.out, HE.out]; rfl, bel_trans b0 b1⟩
  | true =>
    have HE := Lib.hid (dmE_yes hb)
    rcases dm_forms hb with ⟨rfl, rfl, rfl, hN, hV⟩ | ⟨rfl, n1, n2, rfl, hN, hV⟩ | ⟨rfl, rfl, l1, l2, hu, hN, hV⟩
    · have HN := Lib.hid hN
      clear hV hN hb
      go_enter Try.func29, Try.ntmps29
      go_wp2_with fail
      refine (C _ (HR.out.below b0)).out.mono ?_
      rw [HE.out]
      rintro r w1 ⟨rfl, b1⟩
      obtain ⟨kc, kf⟩ := bcell b1
      have e0 : w1.cell? ⟨w.heap.size, 0, none⟩ = some (.int .u8 1) := by rw [kc _ _ (by simp)]; simp
      clear kc kf
      go_wp2
      go_ret2
      exact ⟨by rw [HN.out, HE.out]; rfl, bel_trans b0 b1⟩
    · have HN := Lib.hid hN
      clear hV hN hb
      go_enter Try.func29, Try.ntmps29
      go_wp2_with fail
      refine (C _ (HR.out.below b0)).out.mono ?_
      rw [HE.out]
      rintro r w1 ⟨rfl, b1⟩
      obtain ⟨kc, kf⟩ := bcell b1
      have e0 : w1.cell? ⟨w.heap.size, 0, none⟩ = some (.int .u8 2) := by rw [kc _ _ (by simp)]; simp
      have e1 : w1.cell? ⟨w.heap.size, 1, none⟩ = some (.int .i64 n) := by rw [kc _ _ (by simp)]; simp
      clear kc kf
      go_wp2
      go_ret2
      exact ⟨by rw [HN.out, HE.out]; rfl, bel_trans b0 b1⟩
    · have HN := Lib.hid hN
      clear hV hN hb
      have hl1 : (m : Int) ≤ 63 := by have := HM.out; omega
      go_enter Try.func29, Try.ntmps29
      go_wp2_with fail
      refine (C _ (HR.out.below b0)).out.mono ?_
      rw [HE.out]
      rintro r w1 ⟨rfl, b1⟩
      obtain ⟨kc, kf⟩ := bcell b1
      have e0 : w1.cell? ⟨w.heap.size, 0, none⟩ = some (.int .u8 3) := by rw [kc _ _ (by simp)]; simp
      have e2 : w1.cell? ⟨w.heap.size, 2, none⟩ = some (.slice A m c) := by rw [kc _ _ (by simp)]; simp
      clear kc kf
      go_wp2
      go_ret2
      exact ⟨by rw [HN.out, HM.out, HE.out]; rfl, bel_trans b0 b1⟩
/-- the ends of the keys of a value, in the map with these cuts -/
def ptL (l : List Int) : Nat → Int
  | 0 => 0
  | v + 1 => l.getD v 0
def ptH (l : List Int) (v : Nat) : Int := if v < l.length then l.getD v 0 - 1 else 18446744073709551615
end Dm
end Go.Proofs.Ytcipjjchclpgnaa
