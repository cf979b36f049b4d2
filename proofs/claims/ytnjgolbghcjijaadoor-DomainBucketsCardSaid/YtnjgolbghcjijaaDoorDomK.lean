/- Least of leapfrogref03: contract of the translated code. Conditions: those of XDom. -/
import Derived.Test.YtnjgolbghcjijaaDoorDomL
namespace Go.Proofs.YtnjgolbghcjijaaDoor
open Go.RowKit Go.Sort
set_option linter.unusedVariables false
set_option linter.unusedSimpArgs false
namespace Dm
def lsT (o : Option Int) (e : Int) : Value := .tuple #[.int .u64 (o.getD 0), .bool o.isSome, .int .i64 e]
theorem dm_mod {k n : Int} {l : List Int} (h : dmB k n l = true) (h3 : k ≠ 3) (key : Int) : dmV k n l key = key % dmN k n l := by
  rcases dm_forms h with ⟨rfl, rfl, rfl, hN, hV⟩ | ⟨rfl, n1, n2, rfl, hN, hV⟩ | ⟨rfl, _⟩
  · rw [hN, hV]; omega
  · rw [hN, hV]
  · exact absurd rfl h3
theorem dmL_bad {k n v f : Int} {l : List Int} (h : dmB k n l = false) : dmL k n l v f = none ∧ lsE k n l v = 2 := by
  constructor
  · rw [dmL, h]; rfl
  · rw [lsE, h]; rfl
theorem dmL_out {k n v f : Int} {l : List Int} (h : dmB k n l = true) (h2 : lsB k n l v = false) : dmL k n l v f = none ∧ lsE k n l v = 3 := by
  constructor
  · rw [dmL, h, h2]; rfl
  · rw [lsE, h, h2]; rfl
theorem dmL_ok {k n v f : Int} {l : List Int} (h : dmB k n l = true) (h2 : lsB k n l v = true) : dmL k n l v f = (if k = 3 then lsC l v f else lsM (dmN k n l) v f) ∧ lsE k n l v = 0 := by
  constructor
  · rw [dmL, if_pos h, if_pos h2]
  · rw [lsE, if_pos h, if_pos h2]
set_option maxHeartbeats 1000000 in
theorem leastR_any (k n v f : Int) (A : Option Addr) (m c : Nat) (l : List Int) (w : World) (kl : 0 ≤ k) (kh : k ≤ 255) (nl : -9223372036854775808 ≤ n) (nh : n ≤ 9223372036854775807) (vl : -9223372036854775808 ≤ v) (vh : v ≤ 9223372036854775807) (fl : 0 ≤ f) (fh : f ≤ 18446744073709551615)
    (hm : l.length = m) (hx : m ≤ maxLen) (hr : RdK .u64 w A l) (hd : BdU l) :
    Calls Tryd.prog 25 #[.agg #[.int .u8 k, .int .i64 n, .slice A m c], .int .i64 v, .int .u64 f] w fun e w' => e = .returned (lsT (dmL k n l v f) (lsE k n l v)) ∧ Below w.heap.size w w' := by
  have HR := Lib.hid hr; clear hr
  have HD := Lib.hid hd; clear hd
  have HM := Lib.hid hm; clear hm
  have b0 : Below w.heap.size w (w.alloc (Obj.cells #[.int .u8 k, .int .i64 n, .slice A m c] 24)) := bel_alloc (Below.refl _ _) _
  have C := fun W h => Lib.hid (valuesR_any k n A m c l W kl kh nl nh HM.out hx h HD.out)
  cases hb : dmB k n l with
  | false =>
    have HE := Lib.hid (dmE_no hb)
    have HN := Lib.hid (dmN_no hb)
    have HO := Lib.hid (show lsT (dmL k n l v f) (lsE k n l v) = lsT none 2 by rw [(dmL_bad (v := v) (f := f) hb).1, (dmL_bad (v := v) (f := f) hb).2])
    clear hb
    go_enter Tryd.func25, Tryd.ntmps25
    go_wp2_with fail
    refine (C _ (HR.out.below b0)).out.mono ?_
    rw [HE.out, HN.out]
    rintro r w1 ⟨rfl, b1⟩
    go_wp2
    go_ret3
    exact ⟨(congrArg Ending.returned HO.out).symm, bel_trans b0 b1⟩
  | true =>
    have HE := Lib.hid (dmE_yes hb)
    obtain ⟨N0, N1⟩ := dmN_64 (k := k) (n := n) (l := l)
    have N2 := dmN_pos hb
    by_cases hv : 0 ≤ v ∧ v < dmN k n l
    · have hlb : lsB k n l v = true := decide_eq_true hv
      obtain ⟨v0, v1⟩ := hv
      have HL := Lib.hid (dmL_ok (f := f) hb hlb)
      by_cases h3 : k = 3
      · subst h3
        have hlen : l.length ≤ 63 ∧ dmN 3 n l = l.length + 1 := by
          rcases dm_forms hb with ⟨h, _⟩ | ⟨h, _⟩ | ⟨_, _, _, h, _, h', _⟩
          · cases h
          · cases h
          · exact ⟨h, h'⟩
        obtain ⟨l2, hN⟩ := hlen
        have hm2 : m ≤ 63 := by have := HM.out; omega
        have hvm : v ≤ m := by have := HM.out; omega
        have HC := fun W h => Lib.hid (cutR_any v f A m c l W fl fh HM.out hm2 v0 hvm h HD.out)
        have HO := Lib.hid (show lsT (dmL 3 n l v f) (lsE 3 n l v) = lsR (lsC l v f) by rw [HL.out.1, HL.out.2]; rfl)
        clear hb hlb HL
        generalize dmN 3 n l = N at *
        generalize lsC l v f = O at *
        have t1 : decide (v < 0) = false := by simp; omega
        have t2 : decide (N ≤ v) = false := by simp; omega
        go_enter Tryd.func25, Tryd.ntmps25
        go_wp2_with fail
        refine (C _ (HR.out.below b0)).out.mono ?_
        rw [HE.out]
        rintro r w1 ⟨rfl, b1⟩
        obtain ⟨kc, kf⟩ := bcell b1
        have e0 : w1.cell? ⟨w.heap.size, 0, none⟩ = some (.int .u8 3) := by rw [kc _ _ (by simp)]; simp
        have e2 : w1.cell? ⟨w.heap.size, 2, none⟩ = some (.slice A m c) := by rw [kc _ _ (by simp)]; simp
        have bw := bel_trans b0 b1
        clear kc kf
        go_wp2_with fail
        refine (HC _ (HR.out.below bw)).out.mono ?_
        rintro r w2 ⟨rfl, b2⟩
        have bw2 := bel_trans bw b2
        unfold lsR
        go_wp2
        go_ret3
        exact ⟨(congrArg Ending.returned HO.out).symm, bw2⟩
      · have HV := Lib.hid (dm_mod hb h3)
        have HO := Lib.hid (show lsT (dmL k n l v f) (lsE k n l v) = lsT (lsM (dmN k n l) v f) 0 by rw [HL.out.1, HL.out.2, if_neg h3])
        have HC := fun key W y0 y1 h => Lib.hid (ofR_any k n key A m c l W kl kh nl nh y0 y1 HM.out hx h HD.out)
        clear hb hlb HL
        generalize dmN k n l = N at *
        have T0 : 0 ≤ (v - f) % N := Int.emod_nonneg _ (by omega)
        have T1 : (v - f) % N < N := Int.emod_lt_of_pos _ (by omega)
        have TM : ∀ t, 0 ≤ t → t < N → ((f + t) % N = v ↔ t = (v - f) % N) := fun t a b => mod_at (by omega) v0 v1 a b
        have HS := Lib.hid (show lsM N v f = if f + (v - f) % N ≤ 18446744073709551615 then some (f + (v - f) % N) else none from rfl)
        generalize (v - f) % N = T at *
        have TM' := Lib.hid TM; clear TM
        have t1 : decide (v < 0) = false := by simp; omega
        have t2 : decide (N ≤ v) = false := by simp; omega
        have t3 : (k == 3) = false := by simp [h3]
        go_enter Tryd.func25, Tryd.ntmps25
        go_wp2_with fail
        refine (C _ (HR.out.below b0)).out.mono ?_
        rw [HE.out]
        rintro r w1 ⟨rfl, b1⟩
        obtain ⟨kc, kf⟩ := bcell b1
        have e0 : w1.cell? ⟨w.heap.size, 0, none⟩ = some (.int .u8 k) := by rw [kc _ _ (by simp)]; simp
        have e1 : w1.cell? ⟨w.heap.size, 1, none⟩ = some (.int .i64 n) := by rw [kc _ _ (by simp)]; simp
        have e2 : w1.cell? ⟨w.heap.size, 2, none⟩ = some (.slice A m c) := by rw [kc _ _ (by simp)]; simp
        have hws : w.heap.size < w1.heap.size := by have := b1.size; simp at this; omega
        have bw := bel_trans b0 b1
        clear kc kf
        go_wp2
        go_loopw [11, 12] (fun q i wr => ∃ j : Nat, (j : Int) ≤ T ∧ q = .int .u64 (f + j) ∧ i = .int .i64 j ∧ f + j ≤ 18446744073709551615 ∧ Below w1.heap.size w1 wr) (fun q i _ => (N - intOf i).toNat)
        case atStart => exact ⟨0, by omega, by simp, rfl, by omega, Below.refl _ _⟩
        case round =>
          obtain ⟨j, hj, rfl, rfl, hf, bel⟩ := hrel
          have g0 : wr.cell? ⟨w.heap.size, 0, none⟩ = some (.int .u8 k) := by rw [bel.cell (p := ⟨w.heap.size, 0, none⟩) hws]; exact e0
          have g1 : wr.cell? ⟨w.heap.size, 1, none⟩ = some (.int .i64 n) := by rw [bel.cell (p := ⟨w.heap.size, 1, none⟩) hws]; exact e1
          have g2 : wr.cell? ⟨w.heap.size, 2, none⟩ = some (.slice A m c) := by rw [bel.cell (p := ⟨w.heap.size, 2, none⟩) hws]; exact e2
          have bt := bw.trans (bel.mono bw.size)
          have t4 : decide ((j : Int) < N) = true := by simp; omega
          have hjm := TM'.out j (by omega) (by omega)
          have hf0 : 0 ≤ f + (j : Int) := by omega
          by_cases hjt : (j : Int) = T
          · have t5 : ((f + (j : Int)) % N == v) = true := by simp; exact hjm.2 hjt
            have HP := Lib.hid (show lsM N v f = some (f + j) by rw [HS.out, ← hjt, if_pos hf])
            clear hjt hjm
            go_wp2_with fail
            refine (HC (f + j) _ hf0 hf (HR.out.below bt)).out.mono ?_
            rw [HV.out, HE.out]
            rintro r w2 ⟨rfl, b2⟩
            go_wp2
            go_ret3
            exact ⟨(congrArg Ending.returned (HO.out.trans (congrArg (fun o => lsT o 0) HP.out))).symm, bt.trans (b2.mono bt.size)⟩
          · have t5 : ((f + (j : Int)) % N == v) = false := by simp; exact fun h => hjt (hjm.1 h)
            by_cases hmo : f + (j : Int) = 18446744073709551615
            · have t6 : (f + (j : Int) == 18446744073709551615) = true := by simp [hmo]
              have HP := Lib.hid (show lsM N v f = none by rw [HS.out, if_neg (by omega)])
              clear hmo hjm
              go_wp2_with fail
              refine (HC (f + j) _ hf0 hf (HR.out.below bt)).out.mono ?_
              rw [HV.out, HE.out]
              rintro r w2 ⟨rfl, b2⟩
              go_wp2
              go_ret3
              exact ⟨(congrArg Ending.returned (HO.out.trans (congrArg (fun o => lsT o 0) HP.out))).symm, bt.trans (b2.mono bt.size)⟩
            · have t6 : (f + (j : Int) == 18446744073709551615) = false := by simp [hmo]
              go_wp2_with fail
              refine (HC (f + j) _ hf0 hf (HR.out.below bt)).out.mono ?_
              rw [HV.out, HE.out]
              rintro r w2 ⟨rfl, b2⟩
              go_wp2
              go_roundw
              case rel => exact ⟨j + 1, by omega, by go_num, by go_num, by omega, bel.trans (b2.mono bel.size)⟩
              case measure => simp [intOf]; omega
    · have HO := Lib.hid (show lsT (dmL k n l v f) (lsE k n l v) = lsT none 3 by rw [(dmL_out (f := f) hb (decide_eq_false hv)).1, (dmL_out (f := f) hb (decide_eq_false hv)).2])
      clear hb
      generalize dmN k n l = N at *
      by_cases h0 : v < 0
      · have t1 : decide (v < 0) = true := by simp [h0]
        go_enter Tryd.func25, Tryd.ntmps25
        go_wp2_with fail
        refine (C _ (HR.out.below b0)).out.mono ?_
        rw [HE.out]
        rintro r w1 ⟨rfl, b1⟩
        go_wp2
        go_ret3
        exact ⟨(congrArg Ending.returned HO.out).symm, bel_trans b0 b1⟩
      · have t1 : decide (v < 0) = false := by simp; omega
        have t2 : decide (N ≤ v) = true := by simp; omega
        go_enter Tryd.func25, Tryd.ntmps25
        go_wp2_with fail
        refine (C _ (HR.out.below b0)).out.mono ?_
        rw [HE.out]
        rintro r w1 ⟨rfl, b1⟩
        go_wp2
        go_ret3
        exact ⟨(congrArg Ending.returned HO.out).symm, bel_trans b0 b1⟩
end Dm
end Go.Proofs.YtnjgolbghcjijaaDoor
