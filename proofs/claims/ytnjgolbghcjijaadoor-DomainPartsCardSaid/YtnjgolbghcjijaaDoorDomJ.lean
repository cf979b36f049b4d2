/- The functions of package domain on least keys and images (least, Least, Image): contracts of the translated code. Conditions: those of XDom. -/
import Derived.Test.YtnjgolbghcjijaaDoorDomG
namespace Go.Proofs.YtnjgolbghcjijaaDoor
open Go.RowKit Go.Sort
set_option linter.unusedVariables false
set_option linter.unusedSimpArgs false
namespace Dm
def lsP (o : Option Int) : Value := .tuple #[.int .u64 (o.getD 0), .bool o.isSome]
theorem up_mod {n v f : Int} (hn : 0 < n) : (v + n - f % n) % n = (v - f) % n := by
  have e : v + n - f % n = (v - f % n) + n := by omega
  rw [e, Int.add_emod_right, Int.sub_emod, Int.emod_emod_of_dvd _ (Int.dvd_refl n), ← Int.sub_emod]
theorem lsC_meet {l : List Int} {p : Nat} {f : Int} (hu : upTo l l.length) (hp : p ≤ l.length) (h1 : ∀ k, k < l.length → 1 ≤ l.getD k 0) (hd : BdU l) (fl : 0 ≤ f) (fh : f ≤ 18446744073709551615) :
    Sp.mtB (ptL l p) (ptH l p) f 18446744073709551615 = (lsC l p f).isSome ∧ Sp.mtL (ptL l p) (ptH l p) f 18446744073709551615 = (lsC l p f).getD 0 := by
  have key : ∀ (lo hi : Int) (x : Int), 0 ≤ lo → lo ≤ hi → hi ≤ 18446744073709551615 → x = max f lo → ∀ (b : Bool), (b = true ↔ f ≤ hi) →
      Sp.mtB lo hi f 18446744073709551615 = b ∧ Sp.mtL lo hi f 18446744073709551615 = if b = true then x else 0 := by
    intro lo hi x h0 h1 h2 hx b hb
    have e : Sp.mtB lo hi f 18446744073709551615 = b := by
      cases b with
      | true => exact decide_eq_true ⟨h1, fh, by omega, hb.1 rfl⟩
      | false => exact decide_eq_false fun h => by have := hb.2 h.2.2.2; cases this
    refine ⟨e, ?_⟩
    rw [Sp.mtL, e, hx]
    split <;> omega
  rcases p with _ | p
  · by_cases hlt : 0 < l.length
    · have a1 := h1 0 hlt
      have a2 := hd 0 hlt
      have e := lsC_zero l f
      have k := key (ptL l 0) (ptH l 0) f (by show (0 : Int) ≤ 0; omega) (by show (0 : Int) ≤ ptH l 0; rw [ptH, if_pos hlt]; omega) (by rw [ptH, if_pos hlt]; omega) (by show f = max f 0; omega)
      by_cases hy : l.getD 0 0 ≤ f
      · obtain ⟨k1, k2⟩ := k false (by rw [ptH, if_pos hlt]; exact ⟨fun h => (by cases h), fun h => (by omega)⟩)
        rw [k1, k2, e, if_pos ⟨by omega, hy⟩]; exact ⟨rfl, rfl⟩
      · obtain ⟨k1, k2⟩ := k true (by rw [ptH, if_pos hlt]; exact ⟨fun _ => (by omega), fun _ => rfl⟩)
        rw [k1, k2, e, if_neg (fun h => hy h.2)]; exact ⟨rfl, rfl⟩
    · have e := lsC_zero l f
      have k := key (ptL l 0) (ptH l 0) f (by show (0 : Int) ≤ 0; omega) (by show (0 : Int) ≤ ptH l 0; rw [ptH, if_neg hlt]; omega) (by rw [ptH, if_neg hlt]; omega) (by show f = max f 0; omega)
      obtain ⟨k1, k2⟩ := k true (by rw [ptH, if_neg hlt]; exact ⟨fun _ => (by omega), fun _ => rfl⟩)
      rw [k1, k2, e, if_neg (fun h => by have := h.1; omega)]; exact ⟨rfl, rfl⟩
  · have hpl : p < l.length := by omega
    have x1 := h1 p hpl
    have x2 := hd p hpl
    have e : lsC l ((p + 1 : Nat) : Int) f = if ((p + 1 : Nat) : Int) < l.length ∧ l.getD (p + 1) 0 ≤ max f (l.getD p 0) then none else some (max f (l.getD p 0)) := by
      by_cases h : f < l.getD p 0
      · rw [lsC_high h, show max f (l.getD p 0) = l.getD p 0 by omega]
      · rw [lsC_low h, show max f (l.getD p 0) = f by omega]
    by_cases hlt : p + 1 < l.length
    · have a1 := h1 (p + 1) hlt
      have a2 := hd (p + 1) hlt
      have a3 := upTo_lt hu p (p + 1) (by omega) hlt
      have k := key (ptL l (p + 1)) (ptH l (p + 1)) (max f (l.getD p 0)) (by show 0 ≤ l.getD p 0; omega) (by show l.getD p 0 ≤ _; rw [ptH, if_pos hlt]; omega) (by rw [ptH, if_pos hlt]; omega) rfl
      by_cases hy : l.getD (p + 1) 0 ≤ f
      · obtain ⟨k1, k2⟩ := k false (by rw [ptH, if_pos hlt]; exact ⟨fun h => (by cases h), fun h => (by omega)⟩)
        rw [k1, k2, e, if_pos ⟨by omega, by omega⟩]; exact ⟨rfl, rfl⟩
      · obtain ⟨k1, k2⟩ := k true (by rw [ptH, if_pos hlt]; exact ⟨fun _ => (by omega), fun _ => rfl⟩)
        rw [k1, k2, e, if_neg (fun h => by have := h.2; omega)]; exact ⟨rfl, rfl⟩
    · have k := key (ptL l (p + 1)) (ptH l (p + 1)) (max f (l.getD p 0)) (by show 0 ≤ l.getD p 0; omega) (by show l.getD p 0 ≤ _; rw [ptH, if_neg hlt]; omega) (by rw [ptH, if_neg hlt]; omega) rfl
      obtain ⟨k1, k2⟩ := k true (by rw [ptH, if_neg hlt]; exact ⟨fun _ => (by omega), fun _ => rfl⟩)
      rw [k1, k2, e, if_neg (fun h => by have := h.1; omega)]; exact ⟨rfl, rfl⟩
theorem ptL_bd {l : List Int} {p : Nat} (hp : p ≤ l.length) (hd : BdU l) : 0 ≤ ptL l p ∧ ptL l p ≤ 18446744073709551615 := by
  rcases p with _ | p
  · exact ⟨by show (0 : Int) ≤ 0; omega, by show (0 : Int) ≤ _; omega⟩
  · exact hd p (by omega)
theorem ptH_bd {l : List Int} {p : Nat} (h1 : ∀ k, k < l.length → 1 ≤ l.getD k 0) (hd : BdU l) : 0 ≤ ptH l p ∧ ptH l p ≤ 18446744073709551615 := by
  unfold ptH
  split
  · rename_i h
    have := h1 p h; have := hd p h; omega
  · omega
theorem cuts_one {n : Int} {l : List Int} (h : dmB 3 n l = true) (hd : BdU l) : ∀ k, k < l.length → 1 ≤ l.getD k 0 := fun k hk => by
  have h' : okC l = true := by simpa [dmB] using (show _ from (by simpa [dmB] using h : n = 0 ∧ okC l = true)).2
  obtain ⟨a, _, b, c⟩ := okC_iff.1 h'
  have h0 := (hd 0 (by omega)).1
  by_cases hk0 : k = 0
  · subst hk0; omega
  · have := upTo_lt c 0 k (by omega) hk
    omega
set_option maxHeartbeats 1000000 in
theorem leastP_any (k n v f : Int) (A : Option Addr) (m c : Nat) (l : List Int) (w : World) (kl : 0 ≤ k) (kh : k ≤ 255) (nl : -9223372036854775808 ≤ n) (nh : n ≤ 9223372036854775807) (fl : 0 ≤ f) (fh : f ≤ 18446744073709551615)
    (hb : dmB k n l = true) (hv : lsB k n l v = true) (hm : l.length = m) (hx : m ≤ maxLen) (hr : RdK .u64 w A l) (hd : BdU l) :
    Calls Tryd.prog 40 #[.agg #[.int .u8 k, .int .i64 n, .slice A m c], .int .i64 v, .int .u64 f] w fun e w' => e = .returned (lsP (dmL k n l v f)) ∧ Below w.heap.size w w' := by
  have HR := Lib.hid hr; clear hr
  have HD := Lib.hid hd; clear hd
  have HM := Lib.hid hm; clear hm
  have b0 : Below w.heap.size w (w.alloc (Obj.cells #[.int .u8 k, .int .i64 n, .slice A m c] 24)) := bel_alloc (Below.refl _ _) _
  have HL := Lib.hid (dmL_ok (f := f) hb hv).1
  have hv' : 0 ≤ v ∧ v < dmN k n l := of_decide_eq_true hv
  rcases dm_forms hb with ⟨rfl, rfl, rfl, hN, hV⟩ | ⟨rfl, n1, n2, rfl, hN, hV⟩ | ⟨rfl, rfl, l1, l2, hu, hN, hV⟩
  · rw [hN] at hv'
    obtain rfl : v = 0 := by omega
    have HO := Lib.hid (show lsP (dmL 1 0 [] 0 f) = .tuple #[.int .u64 f, .bool true] by
      rw [HL.out, hN, if_neg (by omega), lsM, if_pos (by omega)]
      simp [lsP])
    clear hV hN hb hv hv'
    go_enter Tryd.func40, Tryd.ntmps40
    go_wp2
    go_ret2
    exact ⟨(congrArg Ending.returned HO.out).symm, b0⟩
  · rw [hN] at hv'
    obtain ⟨v0, v1⟩ := hv'
    have HO := Lib.hid (show lsP (dmL 2 n [] v f) = lsP (if f + (v - f) % n ≤ 18446744073709551615 then some (f + (v - f) % n) else none) by
      rw [HL.out, hN, if_neg (by omega), lsM])
    have HT := Lib.hid (up_mod (n := n) (v := v) (f := f) (by omega))
    have T0 : 0 ≤ (v + n - f % n) % n := Int.emod_nonneg _ (by omega)
    have T1 : (v + n - f % n) % n < n := Int.emod_lt_of_pos _ (by omega)
    have r0 : 0 ≤ f % n := Int.emod_nonneg _ (by omega)
    have r1 : f % n < n := Int.emod_lt_of_pos _ (by omega)
    have r2 : 0 ≤ v + n - f % n := by omega
    have HS := Lib.hid (show (v + n - f % n) % n = (v + n - f) % n by simp)
    clear hV hN hb hv
    by_cases hT : (v + n - f % n) % n ≤ 18446744073709551615 - f
    · have HO' := Lib.hid (show lsP (dmL 2 n [] v f) = .tuple #[.int .u64 (f + (v + n - f) % n), .bool true] by
        rw [HO.out, ← HT.out, if_pos (by omega), HS.out]; rfl)
      have s0 : 0 ≤ (v + n - f) % n := by rw [← HS.out]; omega
      have s1 : (v + n - f) % n ≤ 18446744073709551615 - f := by rw [← HS.out]; omega
      have s2 : f + (v + n - f) % n ≤ 18446744073709551615 := by omega
      have t1 : decide (18446744073709551615 - f < (v + n - f % n) % n) = false := decide_eq_false (by omega)
      have t2 : decide (18446744073709551615 - f < (v + n - f) % n) = false := decide_eq_false (by rw [← HS.out]; omega)
      go_enter Tryd.func40, Tryd.ntmps40
      go_wp2
      go_ret2
      exact ⟨(congrArg Ending.returned HO'.out).symm, b0⟩
    · have HO' := Lib.hid (show lsP (dmL 2 n [] v f) = .tuple #[.int .u64 0, .bool false] by
        rw [HO.out, ← HT.out, if_neg (by omega)]; rfl)
      have t1 : decide (18446744073709551615 - f < (v + n - f % n) % n) = true := decide_eq_true (by omega)
      have t2 : decide (18446744073709551615 - f < (v + n - f) % n) = true := decide_eq_true (by rw [← HS.out]; omega)
      go_enter Tryd.func40, Tryd.ntmps40
      go_wp2
      go_ret2
      exact ⟨(congrArg Ending.returned HO'.out).symm, b0⟩
  · rw [hN] at hv'
    obtain ⟨v0, v1⟩ := hv'
    obtain ⟨p, rfl⟩ := Int.eq_ofNat_of_zero_le v0
    have hpm : p ≤ m := by have := HM.out; omega
    have hm63 : m ≤ 63 := by have := HM.out; omega
    have H1 := Lib.hid (cuts_one hb HD.out)
    have hpl : p ≤ l.length := by omega
    have HK := lsC_meet hu hpl H1.out HD.out fl fh
    have HO := Lib.hid (show lsP (dmL 3 0 l (p : Int) f) = .tuple #[.int .u64 (Sp.mtL (ptL l p) (ptH l p) f 18446744073709551615), .bool (Sp.mtB (ptL l p) (ptH l p) f 18446744073709551615)] by
      rw [HL.out, if_pos rfl, HK.1, HK.2]; rfl)
    obtain ⟨q0, q1⟩ := ptL_bd hpl HD.out
    obtain ⟨q2, q3⟩ := ptH_bd (p := p) H1.out HD.out
    have CP := fun W h => Lib.hid (part_any A m c p l W HM.out hx hpm hm63 H1.out h HD.out)
    have CM := fun W => Lib.hid (Sp.meet_any (ptL l p) (ptH l p) f 18446744073709551615 q0 q1 q2 q3 fl fh (by omega) (by omega) W)
    clear HK hV hN hb hv v0 v1 hu
    generalize ptL l p = x at *
    generalize ptH l p = y at *
    generalize Sp.mtL x y f 18446744073709551615 = g1 at *
    generalize Sp.mtH x y f 18446744073709551615 = g2 at *
    generalize Sp.mtB x y f 18446744073709551615 = g3 at *
    go_enter Tryd.func40, Tryd.ntmps40
    go_wp2_with fail
    refine (CP _ (HR.out.below b0)).out.mono ?_
    rintro r w1 ⟨rfl, b1⟩
    have bw := bel_trans b0 b1
    go_wp2_with fail
    refine (CM _).out.mono ?_
    rintro r w2 ⟨rfl, b2⟩
    have bw2 := bel_trans bw b2
    go_wp2
    go_ret2
    exact ⟨(congrArg Ending.returned HO.out).symm, bel_trans bw2 (by first | exact bel_alloc (Below.refl _ _) _ | exact Below.refl _ _)⟩
set_option maxHeartbeats 1000000 in
theorem least_any (k n v f : Int) (A : Option Addr) (m c : Nat) (l : List Int) (w : World) (kl : 0 ≤ k) (kh : k ≤ 255) (nl : -9223372036854775808 ≤ n) (nh : n ≤ 9223372036854775807) (vl : -9223372036854775808 ≤ v) (vh : v ≤ 9223372036854775807) (fl : 0 ≤ f) (fh : f ≤ 18446744073709551615)
    (hm : l.length = m) (hx : m ≤ maxLen) (hr : RdK .u64 w A l) (hd : BdU l) :
    Calls Tryd.prog 24 #[.agg #[.int .u8 k, .int .i64 n, .slice A m c], .int .i64 v, .int .u64 f] w fun e w' => e = .returned (lsT (dmL k n l v f) (lsE k n l v)) ∧ Below w.heap.size w w' := by
  have HR := Lib.hid hr; clear hr
  have HD := Lib.hid hd; clear hd
  have HM := Lib.hid hm; clear hm
  have b0 : Below w.heap.size w (w.alloc (Obj.cells #[.int .u8 k, .int .i64 n, .slice A m c] 24)) := bel_alloc (Below.refl _ _) _
  have C := fun W h => Lib.hid (values_any k n A m c l W kl kh nl nh HM.out hx h HD.out)
  cases hb : dmB k n l with
  | false =>
    have HE := Lib.hid (dmE_no hb)
    have HN := Lib.hid (dmN_no hb)
    have HO := Lib.hid (show lsT (dmL k n l v f) (lsE k n l v) = .tuple #[.int .u64 0, .bool false, .int .i64 2] by rw [(dmL_bad (v := v) (f := f) hb).1, (dmL_bad (v := v) (f := f) hb).2]; rfl)
    clear hb
    go_enter Tryd.func24, Tryd.ntmps24
    go_wp2_with fail
    refine (C _ (HR.out.below b0)).out.mono ?_
    rw [HE.out, HN.out]
    rintro r w1 ⟨rfl, b1⟩
    go_wp2
    go_ret3
    exact ⟨(congrArg Ending.returned HO.out).symm, bel_trans b0 b1⟩
  | true =>
    have HE := Lib.hid (dmE_yes hb)
    obtain ⟨N0, N1⟩ := dmN_64 (k := k) (n := n) (l := l)
    by_cases hv : 0 ≤ v ∧ v < dmN k n l
    · have hlb : lsB k n l v = true := decide_eq_true hv
      have CL := fun W h => Lib.hid (leastP_any k n v f A m c l W kl kh nl nh fl fh hb hlb HM.out hx h HD.out)
      have HO := Lib.hid (show lsT (dmL k n l v f) (lsE k n l v) = lsT (dmL k n l v f) 0 by rw [(dmL_ok (f := f) hb hlb).2])
      generalize dmL k n l v f = O at CL HO
      generalize lsE k n l v = E at HO
      obtain ⟨v0, v1⟩ := hv
      clear hb hlb
      generalize dmN k n l = N at *
      have t1 : decide (v < 0) = false := by simp; omega
      have t2 : decide (N ≤ v) = false := by simp; omega
      go_enter Tryd.func24, Tryd.ntmps24
      go_wp2_with fail
      refine (C _ (HR.out.below b0)).out.mono ?_
      rw [HE.out]
      rintro r w1 ⟨rfl, b1⟩
      obtain ⟨kc, kf⟩ := bcell b1
      have e0 : w1.cell? ⟨w.heap.size, 0, none⟩ = some (.int .u8 k) := by rw [kc _ _ (by simp)]; simp
      have e1 : w1.cell? ⟨w.heap.size, 1, none⟩ = some (.int .i64 n) := by rw [kc _ _ (by simp)]; simp
      have e2 : w1.cell? ⟨w.heap.size, 2, none⟩ = some (.slice A m c) := by rw [kc _ _ (by simp)]; simp
      have bw := bel_trans b0 b1
      clear kc kf
      go_wp2_with fail
      refine (CL _ (HR.out.below bw)).out.mono ?_
      rintro r w2 ⟨rfl, b2⟩
      unfold lsP
      go_wp2
      go_ret3
      exact ⟨(congrArg Ending.returned HO.out).symm, bel_trans bw b2⟩
    · have hlb : lsB k n l v = false := decide_eq_false hv
      have HO := Lib.hid (show lsT (dmL k n l v f) (lsE k n l v) = .tuple #[.int .u64 0, .bool false, .int .i64 3] by rw [(dmL_out (f := f) hb hlb).1, (dmL_out (f := f) hb hlb).2]; rfl)
      clear hb hlb
      generalize dmN k n l = N at *
      by_cases h1 : v < 0
      · have t1 : decide (v < 0) = true := decide_eq_true h1
        go_enter Tryd.func24, Tryd.ntmps24
        go_wp2_with fail
        refine (C _ (HR.out.below b0)).out.mono ?_
        rw [HE.out]
        rintro r w1 ⟨rfl, b1⟩
        go_wp2
        go_ret3
        exact ⟨(congrArg Ending.returned HO.out).symm, bel_trans b0 b1⟩
      · have t1 : decide (v < 0) = false := decide_eq_false h1
        have t2 : decide (N ≤ v) = true := by simp; omega
        go_enter Tryd.func24, Tryd.ntmps24
        go_wp2_with fail
        refine (C _ (HR.out.below b0)).out.mono ?_
        rw [HE.out]
        rintro r w1 ⟨rfl, b1⟩
        go_wp2
        go_ret3
        exact ⟨(congrArg Ending.returned HO.out).symm, bel_trans b0 b1⟩
end Dm
end Go.Proofs.YtnjgolbghcjijaaDoor
