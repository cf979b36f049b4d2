/- sort.siftDown_func and sort.heapSort_func over a row of candidates, 'less' a bound method: contracts of the translated code. Conditions: at most 64 candidates. (Written by tools/mk7sift.py) -/
import Derived.Test.YtbndgbjenmknmaaDoorQsB
namespace Go.Proofs.YtbndgbjenmknmaaDoor
open Go.RowKit Go.Sort Go.Shelf Go.Lib
set_option linter.unusedVariables false
set_option linter.unusedSimpArgs false
namespace Hq
open Om (bel_alloc below_drewN)
/-- from a on -/
def sh (a : Nat) (f : Nat → Cd) : Nat → Cd := fun k => f (a + k)
theorem sh_sw {a i j : Nat} {f : Nat → Cd} : sh a (Hp.sw f (a + i) (a + j)) = Hp.sw (sh a f) i j := by
  funext k
  unfold sh Hp.sw
  by_cases e1 : k = i
  · rw [e1]; simp
  · by_cases e2 : k = j
    · rw [e2]; by_cases e3 : j = i <;> simp [e3]
    · rw [if_neg (by omega), if_neg (by omega), if_neg e1, if_neg e2]
/-- no child above its parent, from the parent lo on -/
def OkL (lo n : Nat) (h : Nat → Cd) : Prop := ∀ k, 0 < k → k < n → lo ≤ (k - 1) / 2 → (h k).k ≤ (h ((k - 1) / 2)).k
structure DnL (lo n i : Nat) (h : Nat → Cd) : Prop where
  le : lo ≤ i
  one : ∀ k, 0 < k → k < n → lo ≤ (k - 1) / 2 → (k - 1) / 2 ≠ i → (h k).k ≤ (h ((k - 1) / 2)).k
  two : 0 < i → i < n → lo ≤ (i - 1) / 2 → ∀ k, 0 < k → k < n → (k - 1) / 2 = i → (h k).k ≤ (h ((i - 1) / 2)).k
theorem DnL.done {lo n i : Nat} {h : Nat → Cd} (d : DnL lo n i h) (hi : ∀ k, k < n → (k = 2 * i + 1 ∨ k = 2 * i + 2) → (h k).k ≤ (h i).k) : OkL lo n h := fun k k0 kn kl => by
  by_cases e : (k - 1) / 2 = i
  · rw [e]; exact hi k kn (by omega)
  · exact d.one k k0 kn kl e
theorem DnL.step {lo n i j : Nat} {h : Nat → Cd} (d : DnL lo n i h) (jn : j < n) (hj : j = 2 * i + 1 ∨ j = 2 * i + 2) (hl : (h i).k < (h j).k) (hc : ∀ k, k < n → (k = 2 * i + 1 ∨ k = 2 * i + 2) → (h k).k ≤ (h j).k) : DnL lo n j (Hp.sw h i j) := by
  have dl := d.le
  refine ⟨by omega, fun k k0 kn kl hk => ?_, fun j0 _ jl k k0 kn hk => ?_⟩
  · by_cases e : k = i
    · subst e
      have h2 := d.two k0 kn kl j (by omega) jn (by omega)
      rw [Hp.sw_l, Hp.sw_o h (show (k - 1) / 2 ≠ k by omega) (show (k - 1) / 2 ≠ j by omega)]
      exact h2
    · by_cases e2 : k = j
      · subst e2
        rw [show (k - 1) / 2 = i by omega, Hp.sw_l, Hp.sw_r]; omega
      · by_cases e3 : (k - 1) / 2 = i
        · rw [e3, Hp.sw_l, Hp.sw_o h e e2]
          exact hc k kn (by omega)
        · rw [Hp.sw_o h e3 hk, Hp.sw_o h e e2]
          exact d.one k k0 kn kl e3
  · rw [show (j - 1) / 2 = i by omega, Hp.sw_l, Hp.sw_o h (show k ≠ i by omega) (show k ≠ j by omega)]
    have := d.one k k0 kn (by omega) (by omega)
    rw [hk] at this; exact this
theorem OkL.root {n : Nat} {h : Nat → Cd} (o : OkL 0 n h) : ∀ k, k < n → (h k).k ≤ (h 0).k := by
  intro k
  induction k using Nat.strongRecOn with
  | _ k ih =>
    intro kn
    by_cases e : k = 0
    · subst e; exact Int.le_refl _
    · have h1 := ih ((k - 1) / 2) (by omega) (by omega)
      have h2 := o k (by omega) kn (by omega)
      omega
def SiP (w : World) (g n a hi : Nat) (f : Nat → Cd) (P : (Nat → Cd) → Prop) (e : Ending) (w' : World) : Prop := e = .returned (.tuple #[]) ∧ ∃ f', Sws a (a + hi) f f' ∧ P f' ∧ Rw w g n f' w'
set_option maxRecDepth 100000 in
set_option maxHeartbeats 4000000 in
theorem sift_any (g n c lo hi a sf : Nat) (sb : Array Value) (f : Nat → Cd) (w : World) (h : Rw w g n f w) (hs : Swp sf sb g n) (hn : n ≤ 64) (hb : a + hi ≤ n) (hlo : lo ≤ 64) (hd : DnL lo hi lo (sh a f)) :
    Calls Tryd.prog 76 #[.agg #[lsV g n c, swV sf sb], .int .i64 lo, .int .i64 hi, .int .i64 a] w fun e w' => SiP w g n a hi f (fun f' => OkL lo hi (sh a f')) e w' := by
  have HS := Lib.hid hs
  have hg := h.1
  have H1 := fun o => Lib.hid (h.alloc o)
  have HD := Lib.hid hd
  clear h hs hd
  have hls : lsV g n c = .func (.func 32) #[.slice (some ⟨g, 0, none⟩) n c] #[] := rfl
  have hsw : swV sf sb = .func (.func sf) #[] sb := rfl
  rw [hls, hsw]
  clear hls hsw
  go_enter Tryd.func76, Tryd.ntmps76
  go_wp2
  go_loopw [8, 9] (fun s _ wr => ∃ (i : Nat) (f' : Nat → Cd), i ≤ 64 ∧ s = .int .i64 i ∧ Rw w g n f' wr ∧ Sws a (a + hi) f f' ∧ DnL lo hi i (sh a f') ∧ wr.cell? ⟨w.heap.size, 0, none⟩ = some (.func (.func 32) #[.slice (some ⟨g, 0, none⟩) n c] #[]) ∧ wr.cell? ⟨w.heap.size, 1, none⟩ = some (.func (.func sf) #[] sb)) (fun s _ _ => (64 - intOf s).toNat)
  case atStart => exact ⟨lo, f, hlo, rfl, (H1 _).out, .refl, HD.out, by simp, by simp⟩
  case round =>
    obtain ⟨i, f', hi64, rfl, hrw, hsws, hdn, k0, k1⟩ := hrel
    have HR := Lib.hid hrw
    have HW := Lib.hid hsws
    have HT := Lib.hid hdn
    clear hrw hsws hdn
    by_cases h1 : 2 * i + 1 < hi
    · have t1 : decide ((hi : Int) ≤ 2 * (i : Int) + 1) = false := decide_eq_false (by omega)
      by_cases h2 : 2 * i + 2 < hi
      · have t3 : decide (2 * (i : Int) + 1 + 1 < (hi : Int)) = true := decide_eq_true (by omega)
        have CA := HR.out.less (c := c) hn (i := a + (2 * i + 1)) (j := a + (2 * i + 2)) (by omega) (by omega)
        rw [show ((a + (2 * i + 1) : Nat) : Int) = (a : Int) + (2 * (i : Int) + 1) by omega, show ((a + (2 * i + 2) : Nat) : Int) = (a : Int) + (2 * (i : Int) + 1) + 1 by omega] at CA
        by_cases hl2 : (f' (a + (2 * i + 1))).k < (f' (a + (2 * i + 2))).k
        · have CH := Lib.hid (show ∀ k, k < hi → (k = 2 * i + 1 ∨ k = 2 * i + 2) → (sh a f' k).k ≤ (sh a f' (2 * i + 2)).k from fun k _ h => by
            rcases h with rfl | rfl
            · exact Int.le_of_lt hl2
            · exact Int.le_refl _)
          rw [decide_eq_true hl2] at CA
          have CA := Lib.hid CA
          clear hl2
          go_wp2_with fail
          refine CA.out.mono ?_
          rintro r wa ⟨rfl, d1, rfl⟩
          have k0 : (wr.drewN d1).cell? ⟨w.heap.size, 0, none⟩ = some (.func (.func 32) #[.slice (some ⟨g, 0, none⟩) n c] #[]) := k0
          have k1 : (wr.drewN d1).cell? ⟨w.heap.size, 1, none⟩ = some (.func (.func sf) #[] sb) := k1
          have HR := Lib.hid (HR.out.drewN d1)
          clear CA
          generalize wr.drewN d1 = wa at *
          have CL := HR.out.less (c := c) hn (i := a + i) (j := a + (2 * i + 2)) (by omega) (by omega)
          rw [show ((a + i : Nat) : Int) = (a : Int) + (i : Int) by omega, show ((a + (2 * i + 2) : Nat) : Int) = (a : Int) + (2 * (i : Int) + 1 + 1) by omega] at CL
          by_cases hlt : (f' (a + i)).k < (f' (a + (2 * i + 2))).k
          · rw [decide_eq_true hlt] at CL
            have CL := Lib.hid CL
            have NX := HT.out.step (j := 2 * i + 2) (by omega) (by omega) hlt CH.out
            rw [← sh_sw] at NX
            have NX := Lib.hid NX
            clear hlt
            go_wp2_with fail
            refine CL.out.mono ?_
            rintro r w1 ⟨rfl, d, rfl⟩
            have hrw := HR.out.drewN d
            obtain ⟨es, hr2⟩ := hrw.swap HS.out (i := a + i) (j := a + (2 * i + 2)) (by omega) (by omega)
            rw [show ((a + i : Nat) : Int) = (a : Int) + (i : Int) by omega, show ((a + (2 * i + 2) : Nat) : Int) = (a : Int) + (2 * (i : Int) + 1 + 1) by omega] at es
            have k0 : (sw3 (wa.drewN d) g (a + i) (a + (2 * i + 2)) (f' (a + i)) (f' (a + (2 * i + 2)))).cell? ⟨w.heap.size, 0, none⟩ = some (.func (.func 32) #[.slice (some ⟨g, 0, none⟩) n c] #[]) := (sw3_far (by omega) 0).trans k0
            have k1 : (sw3 (wa.drewN d) g (a + i) (a + (2 * i + 2)) (f' (a + i)) (f' (a + (2 * i + 2)))).cell? ⟨w.heap.size, 1, none⟩ = some (.func (.func sf) #[] sb) := (sw3_far (by omega) 1).trans k1
            have HR2 := Lib.hid hr2
            clear hrw hr2 CL
            generalize sw3 (wa.drewN d) g (a + i) (a + (2 * i + 2)) (f' (a + i)) (f' (a + (2 * i + 2))) = w2 at *
            go_wp2
            go_roundw
            case rel => exact ⟨2 * i + 2, _, by omega, by congr 1, HR2.out, HW.out.step (by omega) (by omega) (by omega) (by omega), NX.out, k0, k1⟩
            case measure => simp [intOf]; omega
          · rw [decide_eq_false hlt] at CL
            have CL := Lib.hid CL
            have HN := Lib.hid (Int.not_lt.1 hlt)
            clear hlt
            go_wp2_with fail
            refine CL.out.mono ?_
            rintro r w1 ⟨rfl, d, rfl⟩
            have HR2 := Lib.hid (HR.out.drewN d)
            clear CL
            go_wp2
            go_end0
            exact ⟨rfl, f', HW.out, HT.out.done (fun k hk h => Int.le_trans (CH.out k hk h) HN.out), HR2.out⟩
        · have CH := Lib.hid (show ∀ k, k < hi → (k = 2 * i + 1 ∨ k = 2 * i + 2) → (sh a f' k).k ≤ (sh a f' (2 * i + 1)).k from fun k _ h => by
            rcases h with rfl | rfl
            · exact Int.le_refl _
            · exact Int.not_lt.1 hl2)
          rw [decide_eq_false hl2] at CA
          have CA := Lib.hid CA
          clear hl2
          go_wp2_with fail
          refine CA.out.mono ?_
          rintro r wa ⟨rfl, d1, rfl⟩
          have k0 : (wr.drewN d1).cell? ⟨w.heap.size, 0, none⟩ = some (.func (.func 32) #[.slice (some ⟨g, 0, none⟩) n c] #[]) := k0
          have k1 : (wr.drewN d1).cell? ⟨w.heap.size, 1, none⟩ = some (.func (.func sf) #[] sb) := k1
          have HR := Lib.hid (HR.out.drewN d1)
          clear CA
          generalize wr.drewN d1 = wa at *
          have CL := HR.out.less (c := c) hn (i := a + i) (j := a + (2 * i + 1)) (by omega) (by omega)
          rw [show ((a + i : Nat) : Int) = (a : Int) + (i : Int) by omega, show ((a + (2 * i + 1) : Nat) : Int) = (a : Int) + (2 * (i : Int) + 1) by omega] at CL
          by_cases hlt : (f' (a + i)).k < (f' (a + (2 * i + 1))).k
          · rw [decide_eq_true hlt] at CL
            have CL := Lib.hid CL
            have NX := HT.out.step (j := 2 * i + 1) (by omega) (by omega) hlt CH.out
            rw [← sh_sw] at NX
            have NX := Lib.hid NX
            clear hlt
            go_wp2_with fail
            refine CL.out.mono ?_
            rintro r w1 ⟨rfl, d, rfl⟩
            have hrw := HR.out.drewN d
            obtain ⟨es, hr2⟩ := hrw.swap HS.out (i := a + i) (j := a + (2 * i + 1)) (by omega) (by omega)
            rw [show ((a + i : Nat) : Int) = (a : Int) + (i : Int) by omega, show ((a + (2 * i + 1) : Nat) : Int) = (a : Int) + (2 * (i : Int) + 1) by omega] at es
            have k0 : (sw3 (wa.drewN d) g (a + i) (a + (2 * i + 1)) (f' (a + i)) (f' (a + (2 * i + 1)))).cell? ⟨w.heap.size, 0, none⟩ = some (.func (.func 32) #[.slice (some ⟨g, 0, none⟩) n c] #[]) := (sw3_far (by omega) 0).trans k0
            have k1 : (sw3 (wa.drewN d) g (a + i) (a + (2 * i + 1)) (f' (a + i)) (f' (a + (2 * i + 1)))).cell? ⟨w.heap.size, 1, none⟩ = some (.func (.func sf) #[] sb) := (sw3_far (by omega) 1).trans k1
            have HR2 := Lib.hid hr2
            clear hrw hr2 CL
            generalize sw3 (wa.drewN d) g (a + i) (a + (2 * i + 1)) (f' (a + i)) (f' (a + (2 * i + 1))) = w2 at *
            go_wp2
            go_roundw
            case rel => exact ⟨2 * i + 1, _, by omega, by congr 1, HR2.out, HW.out.step (by omega) (by omega) (by omega) (by omega), NX.out, k0, k1⟩
            case measure => simp [intOf]; omega
          · rw [decide_eq_false hlt] at CL
            have CL := Lib.hid CL
            have HN := Lib.hid (Int.not_lt.1 hlt)
            clear hlt
            go_wp2_with fail
            refine CL.out.mono ?_
            rintro r w1 ⟨rfl, d, rfl⟩
            have HR2 := Lib.hid (HR.out.drewN d)
            clear CL
            go_wp2
            go_end0
            exact ⟨rfl, f', HW.out, HT.out.done (fun k hk h => Int.le_trans (CH.out k hk h) HN.out), HR2.out⟩
      · have t3 : decide (2 * (i : Int) + 1 + 1 < (hi : Int)) = false := decide_eq_false (by omega)
        have CH := Lib.hid (show ∀ k, k < hi → (k = 2 * i + 1 ∨ k = 2 * i + 2) → (sh a f' k).k ≤ (sh a f' (2 * i + 1)).k from fun k _ h => by
          rcases h with rfl | rfl
          · exact Int.le_refl _
          · omega)
        have CL := HR.out.less (c := c) hn (i := a + i) (j := a + (2 * i + 1)) (by omega) (by omega)
        rw [show ((a + i : Nat) : Int) = (a : Int) + (i : Int) by omega, show ((a + (2 * i + 1) : Nat) : Int) = (a : Int) + (2 * (i : Int) + 1) by omega] at CL
        by_cases hlt : (f' (a + i)).k < (f' (a + (2 * i + 1))).k
        · rw [decide_eq_true hlt] at CL
          have CL := Lib.hid CL
          have NX := HT.out.step (j := 2 * i + 1) (by omega) (by omega) hlt CH.out
          rw [← sh_sw] at NX
          have NX := Lib.hid NX
          clear hlt
          go_wp2_with fail
          refine CL.out.mono ?_
          rintro r w1 ⟨rfl, d, rfl⟩
          have hrw := HR.out.drewN d
          obtain ⟨es, hr2⟩ := hrw.swap HS.out (i := a + i) (j := a + (2 * i + 1)) (by omega) (by omega)
          rw [show ((a + i : Nat) : Int) = (a : Int) + (i : Int) by omega, show ((a + (2 * i + 1) : Nat) : Int) = (a : Int) + (2 * (i : Int) + 1) by omega] at es
          have k0 : (sw3 (wr.drewN d) g (a + i) (a + (2 * i + 1)) (f' (a + i)) (f' (a + (2 * i + 1)))).cell? ⟨w.heap.size, 0, none⟩ = some (.func (.func 32) #[.slice (some ⟨g, 0, none⟩) n c] #[]) := (sw3_far (by omega) 0).trans k0
          have k1 : (sw3 (wr.drewN d) g (a + i) (a + (2 * i + 1)) (f' (a + i)) (f' (a + (2 * i + 1)))).cell? ⟨w.heap.size, 1, none⟩ = some (.func (.func sf) #[] sb) := (sw3_far (by omega) 1).trans k1
          have HR2 := Lib.hid hr2
          clear hrw hr2 CL
          generalize sw3 (wr.drewN d) g (a + i) (a + (2 * i + 1)) (f' (a + i)) (f' (a + (2 * i + 1))) = w2 at *
          go_wp2
          go_roundw
          case rel => exact ⟨2 * i + 1, _, by omega, by congr 1, HR2.out, HW.out.step (by omega) (by omega) (by omega) (by omega), NX.out, k0, k1⟩
          case measure => simp [intOf]; omega
        · rw [decide_eq_false hlt] at CL
          have CL := Lib.hid CL
          have HN := Lib.hid (Int.not_lt.1 hlt)
          clear hlt
          go_wp2_with fail
          refine CL.out.mono ?_
          rintro r w1 ⟨rfl, d, rfl⟩
          have HR2 := Lib.hid (HR.out.drewN d)
          clear CL
          go_wp2
          go_end0
          exact ⟨rfl, f', HW.out, HT.out.done (fun k hk h => Int.le_trans (CH.out k hk h) HN.out), HR2.out⟩
    · have t1 : decide ((hi : Int) ≤ 2 * (i : Int) + 1) = true := decide_eq_true (by omega)
      go_wp2
      go_end0
      exact ⟨rfl, f', HW.out, HT.out.done (fun k hk h => by omega), HR.out⟩
theorem okl_start (hi : Nat) (h : Nat → Cd) : OkL ((hi - 1) / 2 + 1) hi h := fun k k0 kn kl => by omega
theorem dnl_next {y hi : Nat} {h : Nat → Cd} (o : OkL (y + 1) hi h) : DnL y hi y h := ⟨Nat.le_refl _, fun k k0 kn kl hk => o k k0 kn (by omega), fun y0 _ hy => by omega⟩
/-- heap and sorted tail -/
structure HpT (x hi : Nat) (h : Nat → Cd) : Prop where
  ok : OkL 0 x h
  srt : ∀ p q, x ≤ p → p < q → q < hi → (h p).k ≤ (h q).k
  lo : ∀ p q, p < x → x ≤ q → q < hi → (h p).k ≤ (h q).k
theorem HpT.start {hi : Nat} {h : Nat → Cd} (o : OkL 0 hi h) : HpT hi hi h := ⟨o, fun p q h1 h2 h3 => by omega, fun p q h1 h2 h3 => by omega⟩
theorem HpT.dn {y hi : Nat} {h : Nat → Cd} (t : HpT (y + 1) hi h) : DnL 0 y 0 (Hp.sw h 0 y) := by
  refine ⟨Nat.le_refl _, fun k k0 kn _ hk => ?_, fun z => absurd z (Nat.lt_irrefl 0)⟩
  rw [Hp.sw_o h hk (show (k - 1) / 2 ≠ y by omega), Hp.sw_o h (by omega) (by omega)]
  exact t.ok k k0 (by omega) (Nat.zero_le _)
theorem HpT.next {y hi a : Nat} {f f' : Nat → Cd} (t : HpT (y + 1) hi (sh a f)) (hy : y < hi) (hs : Sws a (a + y) (Hp.sw f (a + 0) (a + y)) f') (o : OkL 0 y (sh a f')) : HpT y hi (sh a f') := by
  have far : ∀ q, y ≤ q → sh a f' q = Hp.sw (sh a f) 0 y q := fun q hq => by
    rw [← sh_sw]; exact hs.far (a + q) (.inr (by omega))
  have aty : sh a f' y = sh a f 0 := by rw [far y (Nat.le_refl _), Hp.sw_r]
  have old : ∀ p, p < y → ∃ j, j < y + 1 ∧ sh a f' p = sh a f j := fun p hp => by
    obtain ⟨j, h1, h2, e⟩ := hs.old (a + p) (by omega) (by omega)
    have e2 : Hp.sw f (a + 0) (a + y) j = sh a (Hp.sw f (a + 0) (a + y)) (j - a) := by unfold sh; rw [show a + (j - a) = j by omega]
    rw [e2, sh_sw] at e
    have e : sh a f' p = Hp.sw (sh a f) 0 y (j - a) := e
    by_cases e1 : j - a = 0
    · rw [e1, Hp.sw_l] at e; exact ⟨y, by omega, e⟩
    · rw [Hp.sw_o _ e1 (by omega)] at e; exact ⟨j - a, by omega, e⟩
  refine ⟨o, fun p q h1 h2 h3 => ?_, fun p q h1 h2 h3 => ?_⟩
  · rw [far q (by omega), Hp.sw_o _ (by omega) (by omega)]
    by_cases e : p = y
    · rw [e, aty]; exact t.lo 0 q (by omega) (by omega) h3
    · rw [far p (by omega), Hp.sw_o _ (by omega) (by omega)]; exact t.srt p q (by omega) h2 h3
  · obtain ⟨j, hj, e⟩ := old p h1
    rw [e]
    by_cases e2 : q = y
    · rw [e2, aty]; exact t.ok.root j hj
    · rw [far q (by omega), Hp.sw_o _ (by omega) (by omega)]; exact t.lo j q hj (by omega) h3
set_option maxRecDepth 100000 in
set_option maxHeartbeats 4000000 in
theorem heapS_any (g n c a b sf : Nat) (sb : Array Value) (f : Nat → Cd) (w : World) (h : Rw w g n f w) (hs : Swp sf sb g n) (hn : n ≤ 64) (hab : a < b) (hb : b ≤ n) :
    Calls Tryd.prog 67 #[.agg #[lsV g n c, swV sf sb], .int .i64 a, .int .i64 b] w fun e w' => SoP w g n a b f (Srt a b) e w' := by
  have HS := Lib.hid hs
  have hg := h.1
  have H1 := fun o => Lib.hid (h.alloc o)
  clear h hs
  have SI := fun lo hi f W (h : Rw W g n f W) (h1 : a + hi ≤ n) (h2 : lo ≤ 64) (h3 : DnL lo hi lo (sh a f)) => sift_any g n c lo hi a sf sb f W h HS.out hn h1 h2 h3
  have hls : lsV g n c = .func (.func 32) #[.slice (some ⟨g, 0, none⟩) n c] #[] := rfl
  have hsw : swV sf sb = .func (.func sf) #[] sb := rfl
  rw [hls, hsw] at SI
  rw [hls, hsw]
  clear hls hsw
  have SI := fun lo hi f W h h1 h2 h3 => Lib.hid (SI lo hi f W h h1 h2 h3)
  obtain ⟨L, hL⟩ : ∃ L, b = a + L := ⟨b - a, by omega⟩
  have eL : (b : Int) - (a : Int) = (L : Int) := by omega
  have hbL : a + L ≤ b := by omega
  have hbL2 : b ≤ a + L := by omega
  have HLb := Lib.hid hL
  clear hL
  have eH : ((L : Int) - 1).tdiv 2 = ((((L - 1) / 2 + 1 : Nat) : Int) - 1) := by rw [Int.tdiv_eq_ediv_of_nonneg (by omega)]; omega
  obtain ⟨x0, hx0⟩ : ∃ x0 : Nat, x0 = (L - 1) / 2 + 1 := ⟨_, rfl⟩
  have O0 := fun h => Lib.hid (okl_start L h)
  rw [← hx0] at eH O0
  have hx1 : x0 ≤ 64 := by omega
  obtain ⟨z0, hz0⟩ : ∃ z0 : Int, z0 = (x0 : Int) - 1 := ⟨_, rfl⟩
  rw [← hz0] at eH
  have HZ0 := Lib.hid hz0
  have z0l : -1 ≤ z0 := by have := HZ0.out; omega
  have z0h : z0 ≤ 64 := by have := HZ0.out; omega
  clear hx0 hz0
  go_enter Tryd.func67, Tryd.ntmps67
  go_wp2
  go_loopw [9] (fun s wr => ∃ (x : Nat) (z : Int) (f' : Nat → Cd), x ≤ 64 ∧ s = .int .i64 z ∧ z = (x : Int) - 1 ∧ Rw w g n f' wr ∧ Sws a b f f' ∧ OkL x L (sh a f') ∧ wr.cell? ⟨w.heap.size, 0, none⟩ = some (.func (.func 32) #[.slice (some ⟨g, 0, none⟩) n c] #[]) ∧ wr.cell? ⟨w.heap.size, 1, none⟩ = some (.func (.func sf) #[] sb)) (fun s _ => (intOf s + 1).toNat)
  case atStart => exact ⟨x0, z0, f, hx1, by first | rfl | simp [eL, eH], HZ0.out, (H1 _).out, .refl, (O0 _).out, by simp, by simp⟩
  case round =>
    obtain ⟨x, z, f', hx, rfl, hz, hrw, hsws, hok, k0, k1⟩ := hrel
    have HR := Lib.hid hrw
    have HW := Lib.hid hsws
    have HT := Lib.hid hok
    clear hrw hsws hok
    rcases Nat.eq_zero_or_pos x with hx0 | hx0
    · subst hx0
      obtain rfl : z = -1 := by omega
      clear hz
      have wm : wrap64 ((L : Int) - 1) = (L : Int) - 1 := by unfold wrap64; omega
      obtain ⟨z1, hz1⟩ : ∃ z1 : Int, z1 = (L : Int) - 1 := ⟨_, rfl⟩
      go_wp2
      obtain ⟨wo, rfl⟩ : ∃ wo : World, wo = wr := ⟨_, rfl⟩
      go_loopw [10] (fun s wr => ∃ (x : Nat) (z : Int) (f' : Nat → Cd), x ≤ L ∧ s = .int .i64 z ∧ z = (x : Int) - 1 ∧ Rw w g n f' wr ∧ Sws a b f f' ∧ HpT x L (sh a f') ∧ wr.cell? ⟨w.heap.size, 0, none⟩ = some (.func (.func 32) #[.slice (some ⟨g, 0, none⟩) n c] #[]) ∧ wr.cell? ⟨w.heap.size, 1, none⟩ = some (.func (.func sf) #[] sb)) (fun s _ => (intOf s + 1).toNat)
      case atStart => exact ⟨L, (L : Int) - 1, f', Nat.le_refl _, rfl, rfl, HR.out, HW.out, HpT.start HT.out, k0, k1⟩
      case round =>
        clear k0 k1 HR HW HT hz1
        obtain ⟨x, z, f', hx, rfl, hz, hrw, hsws, hok, k0, k1⟩ := hrel
        have HR := Lib.hid hrw
        have HW := Lib.hid hsws
        have HT := Lib.hid hok
        clear hrw hsws hok
        rcases Nat.eq_zero_or_pos x with hx0 | hx0
        · subst hx0
          obtain rfl : z = -1 := by omega
          clear hz
          go_wp2
          go_end0
          exact ⟨rfl, f', HW.out, fun p q h1 h2 h3 => by
            have := HT.out.srt (p - a) (q - a) (by omega) (by omega) (by omega)
            unfold sh at this
            rw [show a + (p - a) = p by omega, show a + (q - a) = q by omega] at this
            exact this, HR.out⟩
        · obtain ⟨y, rfl⟩ : ∃ y, x = y + 1 := ⟨x - 1, by omega⟩
          obtain rfl : z = (y : Int) := by omega
          clear hz
          have t0 : decide (0 ≤ (y : Int)) = true := decide_eq_true (by omega)
          obtain ⟨es, hr2⟩ := HR.out.swap HS.out (i := a + 0) (j := a + y) (by omega) (by omega)
          rw [show ((a + 0 : Nat) : Int) = (a : Int) by omega, show ((a + y : Nat) : Int) = (a : Int) + (y : Int) by omega] at es
          have hlt := World.block_lt_of_cell? wr _ k0
          have k0 : (sw3 wr g (a + 0) (a + y) (f' (a + 0)) (f' (a + y))).cell? ⟨w.heap.size, 0, none⟩ = some (.func (.func 32) #[.slice (some ⟨g, 0, none⟩) n c] #[]) := (sw3_far (by omega) 0).trans k0
          have k1 : (sw3 wr g (a + 0) (a + y) (f' (a + 0)) (f' (a + y))).cell? ⟨w.heap.size, 1, none⟩ = some (.func (.func sf) #[] sb) := (sw3_far (by omega) 1).trans k1
          have DN := HT.out.dn
          rw [← sh_sw] at DN
          have HR2 := Lib.hid hr2
          have C := SI 0 y (Hp.sw f' (a + 0) (a + y)) _ hr2.again (by omega) (by omega) DN
          have hlt2 := World.block_lt_of_cell? _ _ k0
          clear hr2 DN
          generalize sw3 wr g (a + 0) (a + y) (f' (a + 0)) (f' (a + y)) = w2 at *
          go_wp2_with fail
          refine C.out.mono ?_
          rintro r w1 ⟨rfl, f'', hs1, ho1, hr1⟩
          have k0 := (hr1.far hlt2 (by show w.heap.size ≠ g; omega) 0).trans k0
          have k1 := (hr1.far hlt2 (by show w.heap.size ≠ g; omega) 1).trans k1
          have NX := Lib.hid (HT.out.next (by omega) hs1 ho1)
          have HS1 := Lib.hid ((HW.out.step (i := a + 0) (j := a + y) (by omega) (by omega) (by omega) (by omega)).trans (hs1.mono (Nat.le_refl _) (by omega)))
          have HR3 := Lib.hid (HR2.out.on hr1)
          clear hs1 ho1 hr1 C HR2
          go_wp2
          go_roundw
          case rel => first | exact ⟨y, (y : Int) - 1, f'', by omega, rfl, rfl, HR3.out, HS1.out, NX.out, k0, k1⟩ | ((repeat apply Exists.intro); exact ⟨⟨y, (y : Int) - 1, f'', by omega, rfl, rfl, HR3.out, HS1.out, NX.out, k0, k1⟩, rfl⟩)
          case measure => simp [intOf]
    · obtain ⟨y, rfl⟩ : ∃ y, x = y + 1 := ⟨x - 1, by omega⟩
      obtain rfl : z = (y : Int) := by omega
      clear hz
      have t0 : decide (0 ≤ (y : Int)) = true := decide_eq_true (by omega)
      have C := SI y L f' wr HR.out.again (by omega) (by omega) (dnl_next HT.out)
      have hlt := World.block_lt_of_cell? wr _ k0
      go_wp2_with fail
      refine C.out.mono ?_
      rintro r w1 ⟨rfl, f'', hs1, ho1, hr1⟩
      have k0 := (hr1.far hlt (by show w.heap.size ≠ g; omega) 0).trans k0
      have k1 := (hr1.far hlt (by show w.heap.size ≠ g; omega) 1).trans k1
      have HS1 := Lib.hid (HW.out.trans (hs1.mono (Nat.le_refl _) (by omega)))
      have HR3 := Lib.hid (HR.out.on hr1)
      have HO1 := Lib.hid ho1
      clear hs1 ho1 hr1 C
      go_wp2
      go_roundw
      case rel => exact ⟨y, (y : Int) - 1, f'', by omega, rfl, rfl, HR3.out, HS1.out, HO1.out, k0, k1⟩
      case measure => simp [intOf]
end Hq
end Go.Proofs.YtbndgbjenmknmaaDoor
