/- sort.breakPatterns_func and reverseRange_func over a row of candidates (by the library's contracts, that ask nothing of 'less'); sort.pdqsort_func: contract of the translated code. Conditions: at most 64 candidates, distinct keys. -/
import Derived.Test.YtbndgbjenmknmaaDoorQsF
import Derived.Deep.Cut
import Derived.Deep.CutRange
namespace Go.Proofs.YtbndgbjenmknmaaDoor
open Go.RowKit Go.Sort Go.Shelf Go.Lib
set_option linter.unusedVariables false
set_option linter.unusedSimpArgs false
namespace Hq
open Om (bel_alloc below_drewN)
def fn (d : Array Cd) : Nat → Cd := fun k => d[k]!
theorem fn_swp {d : Array Cd} {i j : Nat} (hi : i < d.size) (hj : j < d.size) : fn (swp d i j) = Hp.sw (fn d) i j := by
  funext k
  unfold fn Hp.sw
  rw [swp_get d hi hj]
  by_cases e1 : k = j
  · by_cases e2 : k = i
    · subst e1; subst e2; simp
    · rw [if_pos e1, if_neg e2, if_pos e1]
  · rw [if_neg e1, if_neg e1]
theorem sws_rev (a b : Nat) : ∀ (m i j : Nat) (d : Array Cd), j - i ≤ m → a ≤ i → j < b → b ≤ d.size → Sws a b (fn d) (fn (reverseLoop i j d)) ∧ (reverseLoop i j d).size = d.size
  | 0, i, j, d, hm, hi, hj, hb => by
    rw [reverseLoop, if_neg (by omega)]; exact ⟨.refl, rfl⟩
  | m + 1, i, j, d, hm, hi, hj, hb => by
    by_cases h : i < j
    · rw [reverseLoop, if_pos h]
      obtain ⟨h1, h2⟩ := sws_rev a b m (i + 1) (j - 1) (swp d i j) (by omega) (by omega) (by omega) (by rw [size_swp]; exact hb)
      rw [fn_swp (by omega) (by omega)] at h1
      rw [size_swp] at h2
      exact ⟨(Sws.refl.step hi (by omega) (by omega) hj).trans h1, h2⟩
    · rw [reverseLoop, if_neg h]; exact ⟨.refl, rfl⟩
theorem sws_break (a b : Nat) (d : Array Cd) (hab : a ≤ b) (hb : b ≤ d.size) : Sws a b (fn d) (fn (breakPatterns d a b)) ∧ (breakPatterns d a b).size = d.size := by
  unfold breakPatterns
  simp only
  split
  · rename_i h8
    have hL : 8 ≤ b - a := h8
    have hm : 1 <<< bitsLen (b - a) ≤ 2 * (b - a) := by rw [Nat.one_shiftLeft]; exact two_pow_bitsLen_le (by omega)
    have hm1 : 1 ≤ 1 <<< bitsLen (b - a) := by rw [Nat.one_shiftLeft]; exact Nat.two_pow_pos _
    have key : ∀ (st : UInt64 × Array Cd) (idx : Nat), a ≤ idx → idx < b → b ≤ st.2.size → Sws a b (fn st.2) (fn (breakStep a (b - a) (1 <<< bitsLen (b - a)) st idx).2) ∧ (breakStep a (b - a) (1 <<< bitsLen (b - a)) st idx).2.size = st.2.size := fun st idx h1 h2 h3 => by
      unfold breakStep
      simp only
      have ho : (xorNext st.1).toNat &&& (1 <<< bitsLen (b - a) - 1) ≤ 1 <<< bitsLen (b - a) - 1 := Nat.and_le_right
      generalize (xorNext st.1).toNat &&& (1 <<< bitsLen (b - a) - 1) = o at *
      generalize 1 <<< bitsLen (b - a) = M at *
      have hlt : (if o ≥ b - a then o - (b - a) else o) < b - a := by split <;> omega
      generalize (if o ≥ b - a then o - (b - a) else o) = o2 at *
      rw [fn_swp (by omega) (by omega), size_swp]
      exact ⟨Sws.refl.step h1 h2 (by omega) (by omega), rfl⟩
    generalize 1 <<< bitsLen (b - a) = M at *
    obtain ⟨p1, q1⟩ := key (UInt64.ofNat (b - a), d) (a + (b - a) / 4 * 2 - 1) (by omega) (by omega) hb
    obtain ⟨p2, q2⟩ := key (breakStep a (b - a) M (UInt64.ofNat (b - a), d) (a + (b - a) / 4 * 2 - 1)) (a + (b - a) / 4 * 2 - 1 + 1) (by omega) (by omega) (by rw [q1]; exact hb)
    obtain ⟨p3, q3⟩ := key (breakStep a (b - a) M (breakStep a (b - a) M (UInt64.ofNat (b - a), d) (a + (b - a) / 4 * 2 - 1)) (a + (b - a) / 4 * 2 - 1 + 1)) (a + (b - a) / 4 * 2 - 1 + 2) (by omega) (by omega) (by rw [q2, q1]; exact hb)
    exact ⟨(p1.trans p2).trans p3, by rw [q3, q2, q1]⟩
  · exact ⟨.refl, rfl⟩
/-- the same swaps of another row that is alike -/
theorem Sws.as {a b n : Nat} {f g g' : Nat → Cd} (h : Sws a b g g') (hb : b ≤ n) (he : ∀ i, i < n → f i = g i) : ∃ f', Sws a b f f' ∧ ∀ i, i < n → f' i = g' i := by
  induction h with
  | refl => exact ⟨f, .refl, he⟩
  | @step g2 i j _ i1 i2 j1 j2 ih =>
    obtain ⟨f2, h1, h2⟩ := ih
    refine ⟨Hp.sw f2 i j, h1.step i1 i2 j1 j2, fun k hk => ?_⟩
    unfold Hp.sw
    by_cases e1 : k = i
    · rw [if_pos e1, if_pos e1]; exact h2 j (by omega)
    · by_cases e2 : k = j
      · rw [if_neg e1, if_pos e2, if_neg e1, if_pos e2]; exact h2 i (by omega)
      · rw [if_neg e1, if_neg e2, if_neg e1, if_neg e2]; exact h2 k hk
theorem Rw.of_arr {w W : World} {g n a b : Nat} {f : Nat → Cd} {d d' : Array Cd} (h : Rw w g n f w) (hd : HoldsK enc 3 w g 0 d) (s : d.size = n) (hf : ∀ i, i < n → d[i]! = f i) (hb : b ≤ n) (hs : Sws a b (fn d) (fn d')) (hz : d'.size = d.size) (hw : SWK enc 3 w g 0 d' W) : ∃ f', Sws a b f f' ∧ Rw w g n f' W := by
  obtain ⟨f', h1, h2⟩ := hs.as (f := f) hb (fun i hi => (hf i hi).symm)
  exact ⟨f', h1, h.1, d, d', hd, s, by rw [hz, s], fun i hi => (h2 i hi).symm, hw⟩
def PmP (w : World) (g n a b : Nat) (f : Nat → Cd) (e : Ending) (w' : World) : Prop := e = .returned (.tuple #[]) ∧ ∃ f', Sws a b f f' ∧ Rw w g n f' w'
theorem brk_any (g n c a b sf : Nat) (sb : Array Value) (f : Nat → Cd) (w : World) (h : Rw w g n f w) (hs : Swp sf sb g n) (hn : n ≤ 64) (hab : a ≤ b) (hb : b ≤ n) :
    Calls Tryd.prog 68 #[.agg #[lsV g n c, swV sf sb], .int .i64 a, .int .i64 b] w fun e w' => PmP w g n a b f e w' := by
  obtain ⟨d, hd, s, hf⟩ := h.holds
  have C := Any.breakPatterns_func_cells_w (P := Tryd.prog) (ρ := Tryd.sl6_ren) { Tryd.sl6 with } enc 3 (fun x => enc_len x) (.func 32) #[.slice (some ⟨g, 0, none⟩) n c] #[] sf sb g 0 a b d w (by rw [s]; exact hs) hd h.1 hab (by omega) (by omega)
  obtain ⟨p, q⟩ := sws_break a b d hab (by omega)
  refine Calls.mono (P := Tryd.prog) C ?_
  rintro e w' ⟨rfl, m, os, hw⟩
  exact ⟨rfl, Rw.of_arr h hd s hf hb p q ⟨m, os, hw⟩⟩
theorem rev_any (g n c a b sf : Nat) (sb : Array Value) (f : Nat → Cd) (w : World) (h : Rw w g n f w) (hs : Swp sf sb g n) (hn : n ≤ 64) (hab : a < b) (hb : b ≤ n) :
    Calls Tryd.prog 70 #[.agg #[lsV g n c, swV sf sb], .int .i64 a, .int .i64 b] w fun e w' => PmP w g n a b f e w' := by
  obtain ⟨d, hd, s, hf⟩ := h.holds
  have C := Any.reverseRange_func_cells_w (P := Tryd.prog) (ρ := Tryd.sl6_ren) { Tryd.sl6 with } enc 3 (fun x => enc_len x) (.func 32) #[.slice (some ⟨g, 0, none⟩) n c] #[] sf sb g 0 a b d w (by rw [s]; exact hs) hd h.1 (by omega) (by omega) (by omega)
  obtain ⟨p, q⟩ := sws_rev a b (b - 1 - a) a (b - 1) d (Nat.le_refl _) (Nat.le_refl _) (by omega) (by omega)
  refine Calls.mono (P := Tryd.prog) C ?_
  rintro e w' ⟨rfl, m, os, hw⟩
  exact ⟨rfl, Rw.of_arr h hd s hf hb p q ⟨m, os, hw⟩⟩
end Hq
end Go.Proofs.YtbndgbjenmknmaaDoor
