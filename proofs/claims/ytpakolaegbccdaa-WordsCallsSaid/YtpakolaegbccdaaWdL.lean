/- possible and Replay of package words, Replay of the reference, EqualUints, EqualAccesses, within: contracts of the translated code. Conditions: those of each lemma. -/
import Derived.Test.YtpakolaegbccdaaWdR
namespace Go.Proofs.Ytpakolaegbccdaa
open Go.RowKit Go.Sort
set_option linter.unusedVariables false
set_option linter.unusedSimpArgs false
namespace Wd
open Dm (addr_lit info_parts spot_none RdK flatU infoU bel_alloc bel_trans own_keep below_drewN)
theorem qL {P : Program} {f : FuncId} {args : Array Value} {w : World} {n : Nat} {v : Value}
    (h : Calls P f args (w.drewN n) fun e w' => e = .returned v ∧ w' = w.drewN n) : Calls P f args (w.drewN n) fun e w' => e = .returned v ∧ ∃ m, w' = w.drewN m :=
  h.mono fun _ _ ⟨he, hm⟩ => ⟨he, n, hm⟩
theorem qA {P : Program} {f : FuncId} {args : Array Value} {w : World} {a n : Nat} {v : Value}
    (h : Calls P f args (w.drewN (a + n)) fun e w' => e = .returned v ∧ w' = w.drewN (a + n)) : Calls P f args (w.drewN (a + n)) fun e w'' => e = .returned v ∧ ∃ m, w'' = w.drewN (a + m) :=
  h.mono fun _ _ ⟨he, hm⟩ => ⟨he, n, hm⟩
/-- what possible answers -/
def okP (l : List Int) (x : Ac) (w : World) (e : Ending) (w' : World) : Prop := e = .returned (.bool (decide (ok l x))) ∧ Below w.heap.size w w'
theorem okP_no {l : List Int} {x : Ac} {w w' : World} (h : ¬ ok l x) (hb : Below w.heap.size w w') : okP l x w (.returned (.bool false)) w' := ⟨by rw [decide_eq_false h], hb⟩
theorem okP_yes {l : List Int} {x : Ac} {w w' : World} (h : ok l x) (hb : Below w.heap.size w w') : okP l x w (.returned (.bool true)) w' := ⟨by rw [decide_eq_true h], hb⟩
theorem ok_iff {l : List Int} {x : Ac} (h1 : 0 ≤ x.t ∧ x.t < 64) (h2 : 0 ≤ x.a ∧ x.a < l.length) (h3 : x.o = l.getD x.a.toNat 0) : ok l x ↔ ((x.k = 1 ∧ x.n = x.o ∧ x.s = false) ∨ ((x.k = 2 ∨ x.k = 3) ∧ x.s = false) ∨ (x.k = 4 ∧ (x.s = true ∨ x.n = x.o))) :=
  ⟨fun h => h.2.2.2, fun h => ⟨h1, h2, h3, h⟩⟩
set_option maxRecDepth 100000 in
set_option maxHeartbeats 2000000 in
theorem possible_any (A : Option Addr) (n c : Nat) (l : List Int) (x : Ac) (w : World) (hl : l.length = n) (hn : n ≤ 65536) (hr : RdK .u64 w A l) :
    Calls Try.prog 41 #[.slice A n c, agA x] w (okP l x w) := by
  subst hl
  have C1 := fun W => below_any x.t 64 W
  have C2 := fun W => below_any x.a l.length W
  unfold agA
  by_cases h1 : 0 ≤ x.t ∧ x.t < 64
  · rw [decide_eq_true h1] at C1
    have C1 := fun W => Lib.hid (C1 W)
    by_cases h2 : 0 ≤ x.a ∧ x.a < l.length
    · rw [decide_eq_true h2] at C2
      have C2 := fun W => Lib.hid (C2 W)
      obtain ⟨i, hi⟩ := Int.eq_ofNat_of_zero_le h2.1
      have hil : i < l.length := by omega
      obtain ⟨ab, ao, ea, ca⟩ := hr i hil
      subst ea
      have hab := Dm.cell_lt ca
      obtain ⟨y, hy⟩ : ∃ y, y = l.getD i 0 := ⟨_, rfl⟩
      rw [← hy] at ca
      have hy2 : l.getD x.a.toNat 0 = y := by rw [hi, Int.toNat_natCast, hy]
      by_cases h3 : x.o = y
      · have IF := Lib.hid (ok_iff h1 h2 (h3.trans hy2.symm))
        have t0 : (x.o == y) = true := by simp [h3]
        have t1 : (x.o != y) = false := by simp [h3]
        clear h1 h2 hy2 hr
        rw [hi] at C2 ⊢
        by_cases k1 : x.k = 1
        · have s1 : (x.k == 1) = true := by simp [k1]
          rw [k1]
          by_cases n1 : x.n = x.o
          · have u1 : (x.n == x.o) = true := by simp [n1]
            cases hs : x.s
            · have FIN := fun W h => Lib.hid (okP_yes (w := w) (w' := W) (IF.out.2 (.inl ⟨k1, n1, hs⟩)) h)
              clear h3 hy IF n1
              go_enter Try.func41, Try.ntmps41
              go_wp2
              go_quiet ((go_at_call 38; first | (with_reducible exact qL (C1 _).out) | (with_reducible exact qA (C1 _).out) | (with_reducible exact qL (C2 _).out) | (with_reducible exact qA (C2 _).out)))
              go_wp2
              go_ret
              exact (FIN _ (below_drewN (bel_alloc (Below.refl _ _) _) _)).out
            · have FIN := fun W h => Lib.hid (okP_no (w := w) (w' := W) (fun h => by have := IF.out.1 h; rw [hs] at this; simp [k1] at this) h)
              clear h3 hy IF
              go_enter Try.func41, Try.ntmps41
              go_wp2
              go_quiet ((go_at_call 38; first | (with_reducible exact qL (C1 _).out) | (with_reducible exact qA (C1 _).out) | (with_reducible exact qL (C2 _).out) | (with_reducible exact qA (C2 _).out)))
              go_wp2
              go_ret
              exact (FIN _ (below_drewN (bel_alloc (Below.refl _ _) _) _)).out
          · have u1 : (x.n == x.o) = false := by simp [n1]
            have FIN := fun W h => Lib.hid (okP_no (w := w) (w' := W) (fun h => by have := IF.out.1 h; simp [k1, n1] at this) h)
            clear h3 hy IF n1
            go_enter Try.func41, Try.ntmps41
            go_wp2
            go_quiet ((go_at_call 38; first | (with_reducible exact qL (C1 _).out) | (with_reducible exact qA (C1 _).out) | (with_reducible exact qL (C2 _).out) | (with_reducible exact qA (C2 _).out)))
            go_wp2
            go_ret
            exact (FIN _ (below_drewN (bel_alloc (Below.refl _ _) _) _)).out
        · have s1 : (x.k == 1) = false := by simp [k1]
          by_cases k2 : x.k = 2
          · have s2 : (x.k == 2) = true := by simp [k2]
            rw [k2]
            cases hs : x.s
            · have FIN := fun W h => Lib.hid (okP_yes (w := w) (w' := W) (IF.out.2 (.inr (.inl ⟨.inl k2, hs⟩))) h)
              clear h3 hy IF k1 s1
              go_enter Try.func41, Try.ntmps41
              go_wp2
              go_quiet ((go_at_call 38; first | (with_reducible exact qL (C1 _).out) | (with_reducible exact qA (C1 _).out) | (with_reducible exact qL (C2 _).out) | (with_reducible exact qA (C2 _).out)))
              go_wp2
              go_ret
              exact (FIN _ (below_drewN (bel_alloc (Below.refl _ _) _) _)).out
            · have FIN := fun W h => Lib.hid (okP_no (w := w) (w' := W) (fun h => by have := IF.out.1 h; rw [hs] at this; simp [k2] at this) h)
              clear h3 hy IF k1 s1
              go_enter Try.func41, Try.ntmps41
              go_wp2
              go_quiet ((go_at_call 38; first | (with_reducible exact qL (C1 _).out) | (with_reducible exact qA (C1 _).out) | (with_reducible exact qL (C2 _).out) | (with_reducible exact qA (C2 _).out)))
              go_wp2
              go_ret
              exact (FIN _ (below_drewN (bel_alloc (Below.refl _ _) _) _)).out
          · have s2 : (x.k == 2) = false := by simp [k2]
            by_cases k3 : x.k = 3
            · have s3 : (x.k == 3) = true := by simp [k3]
              rw [k3]
              cases hs : x.s
              · have FIN := fun W h => Lib.hid (okP_yes (w := w) (w' := W) (IF.out.2 (.inr (.inl ⟨.inr k3, hs⟩))) h)
                clear h3 hy IF k1 s1 k2 s2
                go_enter Try.func41, Try.ntmps41
                go_wp2
                go_quiet ((go_at_call 38; first | (with_reducible exact qL (C1 _).out) | (with_reducible exact qA (C1 _).out) | (with_reducible exact qL (C2 _).out) | (with_reducible exact qA (C2 _).out)))
                go_wp2
                go_ret
                exact (FIN _ (below_drewN (bel_alloc (Below.refl _ _) _) _)).out
              · have FIN := fun W h => Lib.hid (okP_no (w := w) (w' := W) (fun h => by have := IF.out.1 h; rw [hs] at this; simp [k3] at this) h)
                clear h3 hy IF k1 s1 k2 s2
                go_enter Try.func41, Try.ntmps41
                go_wp2
                go_quiet ((go_at_call 38; first | (with_reducible exact qL (C1 _).out) | (with_reducible exact qA (C1 _).out) | (with_reducible exact qL (C2 _).out) | (with_reducible exact qA (C2 _).out)))
                go_wp2
                go_ret
                exact (FIN _ (below_drewN (bel_alloc (Below.refl _ _) _) _)).out
            · have s3 : (x.k == 3) = false := by simp [k3]
              by_cases k4 : x.k = 4
              · have s4 : (x.k == 4) = true := by simp [k4]
                rw [k4]
                cases hs : x.s
                · by_cases n1 : x.n = x.o
                  · have u1 : (x.n == x.o) = true := by simp [n1]
                    have FIN := fun W h => Lib.hid (okP_yes (w := w) (w' := W) (IF.out.2 (.inr (.inr ⟨k4, .inr n1⟩))) h)
                    clear h3 hy IF k1 s1 k2 s2 k3 s3 n1
                    go_enter Try.func41, Try.ntmps41
                    go_wp2
                    go_quiet ((go_at_call 38; first | (with_reducible exact qL (C1 _).out) | (with_reducible exact qA (C1 _).out) | (with_reducible exact qL (C2 _).out) | (with_reducible exact qA (C2 _).out)))
                    go_wp2
                    go_ret
                    exact (FIN _ (below_drewN (bel_alloc (Below.refl _ _) _) _)).out
                  · have u1 : (x.n == x.o) = false := by simp [n1]
                    have FIN := fun W h => Lib.hid (okP_no (w := w) (w' := W) (fun h => by have := IF.out.1 h; rw [hs] at this; simp [k4, n1] at this) h)
                    clear h3 hy IF k1 s1 k2 s2 k3 s3 n1
                    go_enter Try.func41, Try.ntmps41
                    go_wp2
                    go_quiet ((go_at_call 38; first | (with_reducible exact qL (C1 _).out) | (with_reducible exact qA (C1 _).out) | (with_reducible exact qL (C2 _).out) | (with_reducible exact qA (C2 _).out)))
                    go_wp2
                    go_ret
                    exact (FIN _ (below_drewN (bel_alloc (Below.refl _ _) _) _)).out
                · have FIN := fun W h => Lib.hid (okP_yes (w := w) (w' := W) (IF.out.2 (.inr (.inr ⟨k4, .inl hs⟩))) h)
                  clear h3 hy IF k1 s1 k2 s2 k3 s3
                  go_enter Try.func41, Try.ntmps41
                  go_wp2
                  go_quiet ((go_at_call 38; first | (with_reducible exact qL (C1 _).out) | (with_reducible exact qA (C1 _).out) | (with_reducible exact qL (C2 _).out) | (with_reducible exact qA (C2 _).out)))
                  go_wp2
                  go_ret
                  exact (FIN _ (below_drewN (bel_alloc (Below.refl _ _) _) _)).out
              · have s4 : (x.k == 4) = false := by simp [k4]
                have FIN := fun W h => Lib.hid (okP_no (w := w) (w' := W) (fun h => by have := IF.out.1 h; simp [k1, k2, k3, k4] at this) h)
                clear h3 hy IF k1 k2 k3 k4
                go_enter Try.func41, Try.ntmps41
                go_wp2
                go_quiet ((go_at_call 38; first | (with_reducible exact qL (C1 _).out) | (with_reducible exact qA (C1 _).out) | (with_reducible exact qL (C2 _).out) | (with_reducible exact qA (C2 _).out)))
                go_wp2
                go_ret
                exact (FIN _ (below_drewN (bel_alloc (Below.refl _ _) _) _)).out
      · have t0 : (x.o == y) = false := by simp [h3]
        have t1 : (x.o != y) = true := by simp [h3]
        have FIN := fun W h => Lib.hid (okP_no (w := w) (w' := W) (l := l) (x := x) (fun h => h3 (h.2.2.1.trans hy2)) h)
        clear h1 h2 hy2 hr h3 hy
        rw [hi] at C2 ⊢
        go_enter Try.func41, Try.ntmps41
        go_wp2
        go_quiet ((go_at_call 38; first | (with_reducible exact qL (C1 _).out) | (with_reducible exact qA (C1 _).out) | (with_reducible exact qL (C2 _).out) | (with_reducible exact qA (C2 _).out)))
        go_wp2
        go_ret
        exact (FIN _ (below_drewN (bel_alloc (Below.refl _ _) _) _)).out
    · rw [decide_eq_false h2] at C2
      have C2 := fun W => Lib.hid (C2 W)
      have FIN := fun W h => Lib.hid (okP_no (w := w) (w' := W) (l := l) (x := x) (fun h => h2 h.2.1) h)
      clear h1 h2 hr
      go_enter Try.func41, Try.ntmps41
      go_wp2
      go_quiet ((go_at_call 38; first | (with_reducible exact qL (C1 _).out) | (with_reducible exact qA (C1 _).out) | (with_reducible exact qL (C2 _).out) | (with_reducible exact qA (C2 _).out)))
      go_wp2
      go_ret
      exact (FIN _ (below_drewN (bel_alloc (Below.refl _ _) _) _)).out
  · rw [decide_eq_false h1] at C1
    have C1 := fun W => Lib.hid (C1 W)
    have FIN := fun W h => Lib.hid (okP_no (w := w) (w' := W) (l := l) (x := x) (fun h => h1 h.1) h)
    clear h1 hr C2
    go_enter Try.func41, Try.ntmps41
    go_wp2
    go_quiet ((go_at_call 38; first | (with_reducible exact qL (C1 _).out) | (with_reducible exact qA (C1 _).out) | (with_reducible exact qL (C2 _).out) | (with_reducible exact qA (C2 _).out)))
    go_wp2
    go_ret
    exact (FIN _ (below_drewN (bel_alloc (Below.refl _ _) _) _)).out
end Wd
end Go.Proofs.Ytpakolaegbccdaa
