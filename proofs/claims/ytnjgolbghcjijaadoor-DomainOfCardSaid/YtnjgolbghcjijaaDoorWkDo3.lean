/- The walk of the law DomainOf (with a copy of the cuts), from the contracts of XDomH, XDomG, XDomV, XDomI and XDomKn. Conditions: those of the contracts. -/
import Derived.Test.YtnjgolbghcjijaaDoorWkDo2
namespace Go.Proofs.YtnjgolbghcjijaaDoor
open Go.RowKit Go.Sort
set_option linter.unusedVariables false
set_option linter.unusedSimpArgs false
namespace Dm
def flatU (l : List Int) : List Value := l.map (Value.int .u64)
theorem infoU : (Tryd.prog.info? 25).map (fun i => (i.zero, i.size, i.bytes)) = some (some (.int .u64 0), 1, 8) := by kernel_rfl
/-- 'append([]uint64{}, xs...)': a copy -/
theorem appAllU {ops : Array Oper} {rest : List Oper} {o : Oper} {a : Act} {Q : Exit → Act → World → Prop} (hgd : o.guard = none) (s x : Operand)
    (ho : o.op = .call { callee := .builtin .append, args := #[s, x], argTypes := #[22, 22] }) (w : World) (A : Option Addr) (n c : Nat) (l : List Int)
    (hs : a.eval s = .slice (some ⟨w.heap.size, 0, none⟩) 0 0) (hx : a.eval x = .slice A n c) (hl : l.length = n) (hn : n ≤ 2000) (hr : RdK .u64 w A l) (hnil : A = none → c = 0)
    (h : ∀ v' w', w'.ownsRow w.heap.size 25 1 v' n (flatU l) → Below w.heap.size w w' → wpList Tryd.prog ops Q rest (a.put o.dst v') w') :
    wpList Tryd.prog ops Q (o :: rest) a (w.alloc (.cells #[] 25)) := by
  obtain ⟨i0, hi, hz0, hz1, hz2⟩ := info_parts infoU
  have made : (w.alloc (.cells #[] 25)).ownsRow w.heap.size 25 1 (.slice (some ⟨w.heap.size, 0, none⟩) 0 0) 0 [] := World.ownsRow_made w #[] 0 (Nat.le_refl _) (Nat.zero_le _) (by simp)
  cases A with
  | none =>
    have hl0 : l = [] := by
      cases l with
      | nil => rfl
      | cons x l => obtain ⟨b, o, e, _⟩ := hr 0 (by simp); cases e
    subst hl0
    obtain rfl : n = 0 := by simpa using hl.symm
    obtain rfl := hnil rfl
    exact wpList_append_own_none hgd s x 22 ho w.heap.size 25 i0 1 Tryd.underlying22 hi _ 0 [] hs made hx (h _ _ made (bel_alloc (Below.refl _ _) _))
  | some ad =>
    refine wpList_append_own _ hgd s x 22 ho w.heap.size 25 i0 _ 1 8 Tryd.underlying22 hi hz0 hz1 hz2 rfl (by omega) _ 0 [] hs made ad n c (flatU l) hx (by simp [flatU, hl]) ?_ (fun u hu => by simp [flatU] at hu; obtain ⟨_, _, rfl⟩ := hu; rfl) (by unfold maxLen; omega) (by omega) (by simp) ?_
    · intro j u hj
      have hjl : j < l.length := by
        have := (List.getElem?_eq_some_iff.1 hj).1
        simpa [flatU] using this
      obtain ⟨b, o', e, g⟩ := hr j hjl
      cases e
      have e2 : (⟨b, o', none⟩ : Addr).add j = ⟨b, o' + j, none⟩ := by simp [Addr.add]
      rw [e2, World.cell?_alloc_lt w _ _ (World.block_lt_of_cell? w _ g), g]
      simp only [flatU, List.getElem?_map, List.getElem?_eq_getElem hjl, List.getD_eq_getElem?_getD] at hj ⊢
      simpa using hj
    · intro v' w' h1 h2 _
      refine h v' w' (by simpa using h1) (((Below.refl _ w).alloc (Nat.le_refl _) _).grown h2 (by simp) fun k hk => ?_)
      simp [Value.ownBlock] at hk
      omega
theorem row_rdU {w : World} {base n : Nat} {v : Value} {l : List Int} (h : w.ownsRow base 25 1 v n (flatU l)) : l.length = n ∧ ∃ A c, v = .slice A n c ∧ RdK .u64 w A l := by
  have hl : l.length = n := by have := h.1; simp [flatU] at this; omega
  refine ⟨hl, ?_⟩
  rcases h.2 with ⟨rfl, rfl⟩ | ⟨g, cap, cur, rfl, hbase, hh, hnc, _⟩
  · obtain rfl : l = [] := List.eq_nil_of_length_eq_zero hl
    exact ⟨none, 0, rfl, fun k hk => by simp at hk⟩
  · refine ⟨_, cap, rfl, fun k hk => ⟨g, 0, rfl, ?_⟩⟩
    rw [Nat.zero_add, h.cellAt _ (by omega)]
    simp only [flatU, List.getElem?_map, List.getElem?_eq_getElem hk, List.getD_eq_getElem?_getD]
    rfl
end Dm
namespace Wk
open Dm
set_option maxHeartbeats 4000000 in
set_option maxRecDepth 100000 in
theorem walk_domainOf (a0k a0i : Int) (a0 : Option Addr) (a0n a0c : Nat) (a0v : List Int) (a1 : Int) (w : World) (a0kl : 0 ≤ a0k) (a0kh : a0k ≤ 255) (a0il : -9223372036854775808 ≤ a0i) (a0ih : a0i ≤ 9223372036854775807) (a0e : a0v.length = a0n) (a0m : a0n ≤ maxLen) (a0r : Dm.RdK .u64 w a0 a0v) (a0b : Dm.BdU a0v) (a0z : a0 = none → a0c = 0) (a1l : 0 ≤ a1) (a1h : a1 ≤ 18446744073709551615) (hT : Dm.Tz w) :
    Calls Tryd.prog 3 #[.agg #[.int .u8 a0k, .int .i64 a0i, .slice a0 a0n a0c], .int .u64 a1] w fun e w' => e = .returned (.bool true) ∧ Below w.heap.size w w' := by
  have HR := Lib.hid a0r; clear a0r
  have HT := Lib.hid hT; clear hT
  have HE := Lib.hid a0e
  have HD := Lib.hid a0b
  have HZ := Lib.hid a0z
  have b0 : Below w.heap.size w (w.alloc (Obj.cells #[.int .u8 a0k, .int .i64 a0i, .slice a0 a0n a0c] 24)) := bel_alloc (Below.refl _ _) _
  by_cases hl : 200 < (a0n : Int)
  · have t0 : decide (200 < (a0n : Int)) = true := decide_eq_true hl
    clear a0e a0b a0z
    go_enter Tryd.func3, Tryd.ntmps3
    go_wp2_with fail
    refine (long_any _ _ _ _ _ _).mono ?_
    rintro r w1 ⟨rfl, b1⟩
    have bw := bel_trans b0 b1
    go_wp2_with fail
    refine (known_any _ (HT.out.below bw)).mono ?_
    rintro r w2 ⟨rfl, b2⟩
    go_wp2
    go_ret
    exact ⟨rfl, bel_trans bw b2⟩
  · have t0 : decide (200 < (a0n : Int)) = false := decide_eq_false hl
    have hn2 : a0n ≤ 2000 := by omega
    have hn3 : (a0n : Int) ≤ 200 := by omega
    have C1 := fun W h => Lib.hid (values_any a0k a0i a0 a0n a0c a0v W a0kl a0kh a0il a0ih a0e a0m h a0b)
    have C2 := fun W h => Lib.hid (valuesR_any a0k a0i a0 a0n a0c a0v W a0kl a0kh a0il a0ih a0e a0m h a0b)
    have C3 := fun W h => Lib.hid (of_any a0k a0i a1 a0 a0n a0c a0v W a0kl a0kh a0il a0ih a1l a1h a0e a0m h a0b)
    have C4 := fun W h => Lib.hid (ofR_any a0k a0i a1 a0 a0n a0c a0v W a0kl a0kh a0il a0ih a1l a1h a0e a0m h a0b)
    have C5 := fun W h => Lib.hid (all_any a0k a0i a0 a0n a0c a0v W a0kl a0kh a0il a0ih a0e a0m h a0b)
    have C6 := fun W h => Lib.hid (allR_any a0k a0i a0 a0n a0c a0v W a0kl a0kh a0il a0ih a0e a0m h a0b)
    have C7 := fun W h => Lib.hid (check_any a0k a0i a0 a0n a0c a0v W a0kl a0kh a0il a0ih a0e a0m h a0b)
    have C8 := fun W h => Lib.hid (checkR_any a0k a0i a0 a0n a0c a0v W a0kl a0kh a0il a0ih a0e a0m h a0b)
    generalize dmN a0k a0i a0v = N at C1 C2
    generalize dmE a0k a0i a0v = E at C1 C2 C3 C4 C5 C6 C7 C8
    generalize dmV a0k a0i a0v a1 = V at C3 C4
    generalize alV a0k a0i a0v = L at C5 C6
    clear a0e a0b a0z hl
    go_enter Tryd.func3, Tryd.ntmps3
    go_wp2_with fail
    refine (long_any _ _ _ _ _ _).mono ?_
    rintro r w1 ⟨rfl, b1⟩
    have bw1 := bel_trans b0 b1
    obtain ⟨kc, kf⟩ := bcell b1
    have e0 : w1.cell? ⟨w.heap.size, 0, none⟩ = some (.int .u8 a0k) := by rw [kc _ _ (by simp)]; simp
    have e1 : w1.cell? ⟨w.heap.size, 1, none⟩ = some (.int .i64 a0i) := by rw [kc _ _ (by simp)]; simp
    have e2 : w1.cell? ⟨w.heap.size, 2, none⟩ = some (.slice a0 a0n a0c) := by rw [kc _ _ (by simp)]; simp
    have hws : w.heap.size < w1.heap.size := by have := b1.size; simp at this; omega
    clear kc kf
    go_wp2_with (at_builtin; refine appAllU rfl (.tmp 22) (.tmp 24) rfl w1 a0 a0n a0c a0v rfl rfl HE.out hn2 (HR.out.below bw1) HZ.out ?_; intro v2 w2 h2 b2; obtain ⟨hl2, A2, c2, rfl, rd2⟩ := row_rdU h2; have R2 := Lib.hid rd2; clear rd2 h2 hl2; have f0 := cy e0 b2; have f1 := cy e1 b2; have f2 := cy e2 b2; clear e0 e1 e2)
    have e0 := f0
    have e1 := f1
    have e2 := f2
    clear f0 f1 f2
    have bw2 := bel_trans bw1 b2
    refine (C1 _ (HR.out.below bw2)).out.mono ?_
    rintro r w3 ⟨rfl, b3⟩
    have bw3 := bel_trans bw2 b3
    have R3 := Lib.hid (R2.out.below b3); clear R2
    have e0 := cy e0 b3
    have e1 := cy e1 b3
    have e2 := cy e2 b3
    go_wp2_with fail
    refine (C2 _ (HR.out.below bw3)).out.mono ?_
    rintro r w4 ⟨rfl, b4⟩
    have bw4 := bel_trans bw3 b4
    have R4 := Lib.hid (R3.out.below b4); clear R3
    have e0 := cy e0 b4
    have e1 := cy e1 b4
    have e2 := cy e2 b4
    go_wp2_with fail
    refine (C3 _ (HR.out.below bw4)).out.mono ?_
    rintro r w5 ⟨rfl, b5⟩
    have bw5 := bel_trans bw4 b5
    have R5 := Lib.hid (R4.out.below b5); clear R4
    have e0 := cy e0 b5
    have e1 := cy e1 b5
    have e2 := cy e2 b5
    go_wp2_with fail
    refine (C4 _ (HR.out.below bw5)).out.mono ?_
    rintro r w6 ⟨rfl, b6⟩
    have bw6 := bel_trans bw5 b6
    have R6 := Lib.hid (R5.out.below b6); clear R5
    have e0 := cy e0 b6
    have e1 := cy e1 b6
    have e2 := cy e2 b6
    go_wp2_with fail
    refine (C5 _ (HR.out.below bw6)).out.mono ?_
    rintro r w7 ⟨rfl, b7⟩
    have bw7 := bel_trans bw6 b7
    have R7 := Lib.hid (R6.out.below b7); clear R6
    have e0 := cy e0 b7
    have e1 := cy e1 b7
    have e2 := cy e2 b7
    go_wp2_with fail
    refine (C6 _ (HR.out.below bw7)).out.mono ?_
    rintro r w8 ⟨rfl, b8⟩
    have bw8 := bel_trans bw7 b8
    have R8 := Lib.hid (R7.out.below b8); clear R7
    have e0 := cy e0 b8
    have e1 := cy e1 b8
    have e2 := cy e2 b8
    have hws8 : w.heap.size < w8.heap.size := cell_lt e0
    go_wp2
    have k0 := cell_regrown e0
    have k1 := cell_regrown e1
    have k2 := cell_regrown e2
    have D7 := fun d os => C7 _ ((HR.out.below bw8).below (below_regrown w8 d os))
    have D8 := fun d os => C8 _ ((HR.out.below bw8).below (below_regrown w8 d os))
    refine wp_region_quiet_below (by kernel_rfl) (by kernel_rfl) ?_
    repeat (first | quiet_step (first | (go_at_call 20; exact Calls.regrown_of (D7 _ _).out) | (go_at_call 21; exact Calls.regrown_of (D8 _ _).out)))
    refine wpQuiet_nil ?_
    intro w9 hw'
    obtain ⟨⟨dq, osq⟩, hw''⟩ := hw'
    have b9 : Below w8.heap.size w8 w9 := by rw [hw'']; exact below_regrown w8 dq osq
    clear hw'' k0 k1 k2 D7 D8
    have bw9 := bel_trans bw8 b9
    have R9 := Lib.hid (R8.out.below b9); clear R8
    have e0 := cy e0 b9
    have e1 := cy e1 b9
    have e2 := cy e2 b9
    go_wp2
    go_loopw [18] (fun i wr => ∃ j : Nat, j ≤ a0n ∧ i = .int .i64 j ∧ Below w9.heap.size w9 wr) (fun i _ => (a0n - intOf i).toNat)
    case atStart => exact ⟨0, Nat.zero_le _, rfl, Below.refl _ _⟩
    case round =>
      obtain ⟨j, hj, rfl, bel⟩ := hrel
      have bt := bel_trans bw9 bel
      have g2 := cy e2 bel
      have hws : w.heap.size < wr.heap.size := cell_lt g2
      clear e0 e1 e2
      by_cases hlt : j < a0n
      · obtain ⟨x0, x1⟩ := HD.out j (by rw [HE.out]; exact hlt)
        obtain ⟨b, o, rfl, c0⟩ := (HR.out.below bt) j (by rw [HE.out]; exact hlt)
        obtain ⟨b', o', rfl, c1⟩ := (R9.out.below bel) j (by rw [HE.out]; exact hlt)
        generalize a0v.getD j 0 = y at x0 x1 c0 c1
        go_wp2
        go_quiet (fail)
        go_wp2
        go_roundw
        case rel => exact ⟨j + 1, by omega, by go_num, below_drewN bel _⟩
        case measure => simp [intOf]; omega
      · obtain rfl : j = a0n := by omega
        go_wp2
        go_ret
        exact ⟨rfl, bt⟩
end Wk
end Go.Proofs.YtnjgolbghcjijaaDoor
