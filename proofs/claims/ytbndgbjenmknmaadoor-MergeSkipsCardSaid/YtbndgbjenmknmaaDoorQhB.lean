/- heap.up and heap.down over the queue of candidates: contracts of the translated code. Conditions: those of XQhA. -/
import Derived.Test.YtbndgbjenmknmaaDoorQhA
namespace Go.Proofs.YtbndgbjenmknmaaDoor
open Go.RowKit Go.Sort
set_option linter.unusedVariables false
set_option linter.unusedSimpArgs false
namespace Hq
theorem row_of {t : TypeId} {n : String} {f : FuncId} {p : Bool} (h : (Tryd.prog.info? t).bind (fun i => (i.methods.find? (·.name == n)).map fun m => (m.path.toList.length, m.func)) = some (0, some (f, p))) (w : World) :
    ∃ i m, (typeInfo t).run Tryd.prog w = .ok i w ∧ i.methods.find? (·.name == n) = some m ∧ m.path.toList = [] ∧ m.func = some (f, p) := by
  cases e : Tryd.prog.info? t with
  | none => rw [e] at h; cases h
  | some i =>
    rw [e] at h
    cases e2 : i.methods.find? (·.name == n) with
    | none => simp [e2] at h
    | some m =>
      simp [e2] at h
      refine ⟨i, m, by simp [typeInfo, go_sem, e], e2, by simpa using h.1, h.2⟩
theorem und_q (w : World) : (underlying 79).run Tryd.prog w = .ok (.pointer 63) w := by kernel_rfl
theorem chk_q (a : Addr) (w : World) (s : String) : (Builtin.ssaWrapNilChk_ #[79] 79 #[.pointer (some a), strVal "", strVal s]).run Tryd.prog w = .ok (.pointer (some a)) w := by kernel_rfl
set_option maxRecDepth 100000 in
/-- a method on the value, found through the pointer -/
theorem via {f : FuncId} {s : String} (hr : (Tryd.prog.info? 79).bind (fun i => (i.methods.find? (·.name == s)).map fun m => (m.path.toList.length, m.func)) = some (0, some (f, false))) (g b : Nat) (A : Option Addr) (n c : Nat) (w : World) (h : w.cell? ⟨b, 2, none⟩ = some (.slice A n c)) :
    (method (g + 1) 79 (.pointer (some ⟨b, 2, none⟩)) s).run Tryd.prog w = .ok (f, .slice A n c) w := by
  obtain ⟨i, m, h1, h2, h3, h4⟩ := row_of hr w
  have hl : (loadVar 63 ⟨b, 2, none⟩).run Tryd.prog w = .ok (.slice A n c) w := by go_simp
  have hm : m.path.isEmpty = true := by simpa using h3
  unfold method
  rw [Sem.run_bind, h1]
  simp only [Result.andThen, h2, h3, follow, h4, hm, if_true, receiverAt, Place.get]
  simp [go_sem, und_q, chk_q, asAddr, hl]
  all_goals (rw [h]; rfl)
theorem via_len (g b : Nat) (A : Option Addr) (n c : Nat) (w : World) (h : w.cell? ⟨b, 2, none⟩ = some (.slice A n c)) : (method (g + 1) 79 (.pointer (some ⟨b, 2, none⟩)) "Len").run Tryd.prog w = .ok (98, .slice A n c) w := via (by kernel_rfl) g b A n c w h
theorem via_less (g b : Nat) (A : Option Addr) (n c : Nat) (w : World) (h : w.cell? ⟨b, 2, none⟩ = some (.slice A n c)) : (method (g + 1) 79 (.pointer (some ⟨b, 2, none⟩)) "Less").run Tryd.prog w = .ok (32, .slice A n c) w := via (by kernel_rfl) g b A n c w h
theorem via_swap (g b : Nat) (A : Option Addr) (n c : Nat) (w : World) (h : w.cell? ⟨b, 2, none⟩ = some (.slice A n c)) : (method (g + 1) 79 (.pointer (some ⟨b, 2, none⟩)) "Swap").run Tryd.prog w = .ok (99, .slice A n c) w := via (by kernel_rfl) g b A n c w h
theorem via_least (g b : Nat) (A : Option Addr) (n c : Nat) (w : World) (h : w.cell? ⟨b, 2, none⟩ = some (.slice A n c)) : (method (g + 1) 79 (.pointer (some ⟨b, 2, none⟩)) "leapfrog/merge.least").run Tryd.prog w = .ok (100, .slice A n c) w := via (by kernel_rfl) g b A n c w h
theorem via_pop (g : Nat) (a : Addr) (w : World) : (method (g + 1) 79 (.pointer (some a)) "Pop").run Tryd.prog w = .ok (101, .pointer (some a)) w := by kernel_rfl
theorem via_push (g : Nat) (a : Addr) (w : World) : (method (g + 1) 79 (.pointer (some a)) "Push").run Tryd.prog w = .ok (102, .pointer (some a)) w := by kernel_rfl
theorem nil_any (g : Nat) (a : Addr) (w : World) (s : String) (hs : s = "Len" ∨ s = "Less" ∨ s = "Swap" ∨ s = "Push" ∨ s = "Pop" ∨ s = "leapfrog/merge.least") : (nilAhead (g + 1) 79 (.pointer (some a)) s).run Tryd.prog w = .ok (some false) w := by
  rcases hs with rfl | rfl | rfl | rfl | rfl | rfl <;> kernel_rfl
/-- the queue as an interface value -/
def iq (b : Nat) : Value := .iface 79 (.pointer (some ⟨b, 2, none⟩))
/-- what sifting keeps: the same things in the first n places, each once -/
structure Pm (n : Nat) (a a' : Nat → Cd) : Prop where
  mem : ∀ x, Hp.Mem a' n x ↔ Hp.Mem a n x
  once : ∀ m, Hp.Once m a n → Hp.Once m a' n
  far : ∀ k, n ≤ k → a' k = a k
theorem Pm.refl (n : Nat) (a : Nat → Cd) : Pm n a a := ⟨fun _ => Iff.rfl, fun _ h => h, fun _ _ => rfl⟩
theorem Pm.sw {n : Nat} {a a' : Nat → Cd} (h : Pm n a a') {i j : Nat} (hi : i < n) (hj : j < n) : Pm n a (Hp.sw a' i j) :=
  ⟨fun x => (Hp.mem_sw hi hj x).trans (h.mem x), fun m hm => Hp.once_sw (h.once m hm) hi hj, fun k hk => (Hp.sw_o a' (by omega) (by omega)).trans (h.far k hk)⟩
def key (x : Cd) : Int := x.k
def UpP (b q n c : Nat) (a : Nat → Cd) (w w' : World) : Prop := ∃ a', Qu w' b q n c a' ∧ Hp.Ok key a' n ∧ Pm n a a' ∧ Ch b (Two b q) w w'
set_option maxRecDepth 100000 in
set_option maxHeartbeats 1000000 in
theorem up_any (b q n c j : Nat) (a : Nat → Cd) (w : World) (h : Qu w b q n c a) (hu : Hp.Up key a n j) :
    Calls Tryd.prog 52 #[iq b, .int .i64 j] w fun e w' => e = .returned (.tuple #[]) ∧ UpP b q n c a w w' := by
  have HH := Lib.hid h
  have HU := Lib.hid hu
  have n64 := h.n64
  clear h hu
  unfold iq
  go_enter Tryd.func52, Tryd.ntmps52
  go_wp2
  go_loopw [1, 4] (fun s i wr => ∃ (j : Nat) (a' : Nat → Cd), s = .int .i64 j ∧ Qu wr b q n c a' ∧ Hp.Up key a' n j ∧ Pm n a a' ∧ Ch b (Two b q) w wr) (fun s _ _ => (intOf s).toNat)
  case atStart => exact ⟨j, a, rfl, HH.out, HU.out, Pm.refl n a, Ch.refl b _ w⟩
  case round =>
    obtain ⟨j, a', rfl, hq, hu, hp, hc⟩ := hrel
    have hj := hu.jn
    have hd := hq.hd
    have HQ := Lib.hid hq
    have HU := Lib.hid hu
    clear hq hu
    by_cases j0 : j = 0
    · subst j0
      go_wp2
      go_end0
      exact ⟨rfl, a', HQ.out, HU.out.done _ (.inl rfl), hp, hc⟩
    · obtain ⟨p, hpj⟩ : ∃ p : Nat, p = (j - 1) / 2 := ⟨_, rfl⟩
      have hpl : p < j := by omega
      have hpn : p < n := by omega
      have e1 : ((j : Int) - 1).tdiv 2 = (p : Int) := by rw [Int.tdiv_eq_ediv_of_nonneg (by omega)]; omega
      have t0 : ((p : Int) == (j : Int)) = false := beq_eq_false_iff_ne.2 (by omega)
      have m1 := fun g => via_less g b _ n c wr hd
      have m0 := fun g => nil_any g ⟨b, 2, none⟩ wr "Less" (by simp)
      have CL := Lib.hid (less_q HQ.out hj hpn)
      have ST := Lib.hid (fun (h : key (a' j) < key (a' p)) => HU.out.step key (by omega) (by rw [← hpj]; exact h))
      have DN := Lib.hid (fun (h : key (a' p) ≤ key (a' j)) => HU.out.done key (.inr (by rw [← hpj]; exact h)))
      rw [← hpj] at ST
      have HPJ := Lib.hid hpj
      clear hpj j0
      by_cases hlt : (a' j).k < (a' p).k
      · rw [decide_eq_true hlt] at CL
        go_wp2_with fail
        refine CL.out.mono ?_
        rintro r w1 ⟨rfl, hq1, hc1⟩
        have m2 := fun g => via_swap g b _ n c w1 hq1.hd
        have m3 := fun g => nil_any g ⟨b, 2, none⟩ w1 "Swap" (by simp)
        have CS := Lib.hid (swap_q hq1 hpn hj)
        clear m0 m1
        go_wp2_with fail
        refine CS.out.mono ?_
        rintro r w2 ⟨rfl, hq2, hc2⟩
        clear m2 m3
        go_wp2
        go_roundw
        case rel => exact ⟨p, _, rfl, hq2, ST.out hlt, hp.sw hpn hj, hc.trans (hc1.trans hc2 fun _ _ h => h) fun _ _ h => h⟩
        case measure => simp [intOf]; omega
      · rw [decide_eq_false hlt] at CL
        go_wp2_with fail
        refine CL.out.mono ?_
        rintro r w1 ⟨rfl, hq1, hc1⟩
        clear m0 m1
        go_wp2
        go_end0
        exact ⟨rfl, a', hq1, DN.out (by unfold key; omega), hp, hc.trans hc1 fun _ _ h => h⟩
def DnP (b q N n c : Nat) (a : Nat → Cd) (e : Ending) (w w' : World) : Prop := ∃ r a', e = .returned (.bool r) ∧ Qu w' b q N c a' ∧ Hp.Ok key a' n ∧ Pm n a a' ∧ Ch b (Two b q) w w'
set_option maxRecDepth 100000 in
set_option maxHeartbeats 1000000 in
theorem down_any (b q N n c : Nat) (a : Nat → Cd) (w : World) (h : Qu w b q N c a) (hN : n ≤ N) (hu : Hp.Dn key a n 0) :
    Calls Tryd.prog 74 #[iq b, .int .i64 0, .int .i64 n] w fun e w' => DnP b q N n c a e w w' := by
  have HH := Lib.hid h
  have HU := Lib.hid hu
  have n64 := h.n64
  clear h hu
  unfold iq
  go_enter Tryd.func74, Tryd.ntmps74
  go_wp2
  go_loopw [7, 8, 9, 10] (fun s _ _ _ wr => ∃ (i : Nat) (a' : Nat → Cd), i ≤ 64 ∧ s = .int .i64 i ∧ Qu wr b q N c a' ∧ Hp.Dn key a' n i ∧ Pm n a a' ∧ Ch b (Two b q) w wr) (fun s _ _ _ _ => (64 - intOf s).toNat)
  case atStart => exact ⟨0, a, by omega, rfl, HH.out, HU.out, Pm.refl n a, Ch.refl b _ w⟩
  case round =>
    obtain ⟨i, a', hi64, rfl, hq, hu, hp, hc⟩ := hrel
    have hd := hq.hd
    have HQ := Lib.hid hq
    have HU := Lib.hid hu
    clear hq hu
    by_cases h1 : 2 * i + 1 < n
    · have t1 : decide ((n : Int) ≤ 2 * (i : Int) + 1) = false := decide_eq_false (by omega)
      have t2 : decide (2 * (i : Int) + 1 < 0) = false := decide_eq_false (by omega)
      have m1 := fun g => via_less g b _ N c wr hd
      have m0 := fun g => nil_any g ⟨b, 2, none⟩ wr "Less" (by simp)
      by_cases h2 : 2 * i + 2 < n
      · have t3 : decide (2 * (i : Int) + 1 + 1 < (n : Int)) = true := decide_eq_true (by omega)
        have CA := less_q (i := 2 * i + 2) (j := 2 * i + 1) HQ.out (by omega) (by omega)
        rw [show ((2 * i + 2 : Nat) : Int) = 2 * (i : Int) + 1 + 1 by omega, show ((2 * i + 1 : Nat) : Int) = 2 * (i : Int) + 1 by omega] at CA
        by_cases hl2 : (a' (2 * i + 2)).k < (a' (2 * i + 1)).k
        · have CH := Lib.hid (show ∀ k, k < n → (k = 2 * i + 1 ∨ k = 2 * i + 2) → key (a' (2 * i + 2)) ≤ key (a' k) from fun k _ h => by
            rcases h with rfl | rfl
            · exact Int.le_of_lt hl2
            · exact Int.le_refl _)
          rw [decide_eq_true hl2] at CA
          have CA := Lib.hid CA
          clear hl2
          go_wp2_with fail
          refine CA.out.mono ?_
          rintro r wa ⟨rfl, hqa, hca⟩
          have hc := hc.trans hca fun _ _ h => h
          clear hca m0 m1 CA HQ hd
          have HQ := Lib.hid hqa
          have hd := hqa.hd
          have m1 := fun g => via_less g b _ N c wa hd
          have m0 := fun g => nil_any g ⟨b, 2, none⟩ wa "Less" (by simp)
          clear hqa
          have CL := less_q (i := 2 * i + 2) (j := i) HQ.out (by omega) (by omega)
          rw [show ((2 * i + 2 : Nat) : Int) = 2 * (i : Int) + 1 + 1 by omega] at CL
          have CL := Lib.hid CL
          by_cases hlt : (a' (2 * i + 2)).k < (a' i).k
          · rw [decide_eq_true hlt] at CL
            go_wp2_with fail
            refine CL.out.mono ?_
            rintro r w1 ⟨rfl, hq1, hc1⟩
            have m2 := fun g => via_swap g b _ N c w1 hq1.hd
            have m3 := fun g => nil_any g ⟨b, 2, none⟩ w1 "Swap" (by simp)
            have CS := swap_q (i := i) (j := 2 * i + 2) hq1 (by omega) (by omega)
            rw [show ((2 * i + 2 : Nat) : Int) = 2 * (i : Int) + 1 + 1 by omega] at CS
            have CS := Lib.hid CS
            clear m0 m1
            go_wp2_with fail
            refine CS.out.mono ?_
            rintro r w2 ⟨rfl, hq2, hc2⟩
            clear m2 m3
            go_wp2
            go_roundw
            case rel => exact ⟨2 * i + 2, _, by omega, by congr 1, hq2, HU.out.step key (by omega) (by omega) hlt CH.out, hp.sw (by omega) (by omega), hc.trans (hc1.trans hc2 fun _ _ h => h) fun _ _ h => h⟩
            case measure => simp [intOf]; omega
          · have HN := Lib.hid (Int.not_lt.1 hlt)
            rw [decide_eq_false hlt] at CL
            go_wp2_with fail
            refine CL.out.mono ?_
            rintro r w1 ⟨rfl, hq1, hc1⟩
            clear m0 m1
            go_wp2
            go_ret
            exact ⟨_, a', rfl, hq1, HU.out.done key (fun k hk h => Int.le_trans HN.out (CH.out k hk h)), hp, hc.trans hc1 fun _ _ h => h⟩
        · have CH := Lib.hid (show ∀ k, k < n → (k = 2 * i + 1 ∨ k = 2 * i + 2) → key (a' (2 * i + 1)) ≤ key (a' k) from fun k _ h => by
            rcases h with rfl | rfl
            · exact Int.le_refl _
            · exact Int.not_lt.1 hl2)
          rw [decide_eq_false hl2] at CA
          have CA := Lib.hid CA
          clear hl2
          go_wp2_with fail
          refine CA.out.mono ?_
          rintro r wa ⟨rfl, hqa, hca⟩
          have hc := hc.trans hca fun _ _ h => h
          clear hca m0 m1 CA HQ hd
          have HQ := Lib.hid hqa
          have hd := hqa.hd
          have m1 := fun g => via_less g b _ N c wa hd
          have m0 := fun g => nil_any g ⟨b, 2, none⟩ wa "Less" (by simp)
          clear hqa
          have CL := less_q (i := 2 * i + 1) (j := i) HQ.out (by omega) (by omega)
          rw [show ((2 * i + 1 : Nat) : Int) = 2 * (i : Int) + 1 by omega] at CL
          have CL := Lib.hid CL
          by_cases hlt : (a' (2 * i + 1)).k < (a' i).k
          · rw [decide_eq_true hlt] at CL
            go_wp2_with fail
            refine CL.out.mono ?_
            rintro r w1 ⟨rfl, hq1, hc1⟩
            have m2 := fun g => via_swap g b _ N c w1 hq1.hd
            have m3 := fun g => nil_any g ⟨b, 2, none⟩ w1 "Swap" (by simp)
            have CS := swap_q (i := i) (j := 2 * i + 1) hq1 (by omega) (by omega)
            rw [show ((2 * i + 1 : Nat) : Int) = 2 * (i : Int) + 1 by omega] at CS
            have CS := Lib.hid CS
            clear m0 m1
            go_wp2_with fail
            refine CS.out.mono ?_
            rintro r w2 ⟨rfl, hq2, hc2⟩
            clear m2 m3
            go_wp2
            go_roundw
            case rel => exact ⟨2 * i + 1, _, by omega, by congr 1, hq2, HU.out.step key (by omega) (by omega) hlt CH.out, hp.sw (by omega) (by omega), hc.trans (hc1.trans hc2 fun _ _ h => h) fun _ _ h => h⟩
            case measure => simp [intOf]; omega
          · have HN := Lib.hid (Int.not_lt.1 hlt)
            rw [decide_eq_false hlt] at CL
            go_wp2_with fail
            refine CL.out.mono ?_
            rintro r w1 ⟨rfl, hq1, hc1⟩
            clear m0 m1
            go_wp2
            go_ret
            exact ⟨_, a', rfl, hq1, HU.out.done key (fun k hk h => Int.le_trans HN.out (CH.out k hk h)), hp, hc.trans hc1 fun _ _ h => h⟩
      · have t3 : decide (2 * (i : Int) + 1 + 1 < (n : Int)) = false := decide_eq_false (by omega)
        have CH := Lib.hid (show ∀ k, k < n → (k = 2 * i + 1 ∨ k = 2 * i + 2) → key (a' (2 * i + 1)) ≤ key (a' k) from fun k _ h => by
          rcases h with rfl | rfl
          · exact Int.le_refl _
          · omega)
        have CL := less_q (i := 2 * i + 1) (j := i) HQ.out (by omega) (by omega)
        rw [show ((2 * i + 1 : Nat) : Int) = 2 * (i : Int) + 1 by omega] at CL
        have CL := Lib.hid CL
        by_cases hlt : (a' (2 * i + 1)).k < (a' i).k
        · rw [decide_eq_true hlt] at CL
          go_wp2_with fail
          refine CL.out.mono ?_
          rintro r w1 ⟨rfl, hq1, hc1⟩
          have m2 := fun g => via_swap g b _ N c w1 hq1.hd
          have m3 := fun g => nil_any g ⟨b, 2, none⟩ w1 "Swap" (by simp)
          have CS := swap_q (i := i) (j := 2 * i + 1) hq1 (by omega) (by omega)
          rw [show ((2 * i + 1 : Nat) : Int) = 2 * (i : Int) + 1 by omega] at CS
          have CS := Lib.hid CS
          clear m0 m1
          go_wp2_with fail
          refine CS.out.mono ?_
          rintro r w2 ⟨rfl, hq2, hc2⟩
          clear m2 m3
          go_wp2
          go_roundw
          case rel => exact ⟨2 * i + 1, _, by omega, by congr 1, hq2, HU.out.step key (by omega) (by omega) hlt CH.out, hp.sw (by omega) (by omega), hc.trans (hc1.trans hc2 fun _ _ h => h) fun _ _ h => h⟩
          case measure => simp [intOf]; omega
        · have HN := Lib.hid (Int.not_lt.1 hlt)
          rw [decide_eq_false hlt] at CL
          go_wp2_with fail
          refine CL.out.mono ?_
          rintro r w1 ⟨rfl, hq1, hc1⟩
          clear m0 m1
          go_wp2
          go_ret
          exact ⟨_, a', rfl, hq1, HU.out.done key (fun k hk h => Int.le_trans HN.out (CH.out k hk h)), hp, hc.trans hc1 fun _ _ h => h⟩
    · have t1 : decide ((n : Int) ≤ 2 * (i : Int) + 1) = true := decide_eq_true (by omega)
      go_wp2
      go_ret
      exact ⟨_, a', rfl, HQ.out, HU.out.done key (fun k hk h => by omega), hp, hc⟩
end Hq
end Go.Proofs.YtbndgbjenmknmaaDoor
