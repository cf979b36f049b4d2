/- A row of candidates under the library's sort with a bound method for 'less': what a world holds then, what swaps keep; sort.insertionSort_func: contract of the translated code. Conditions: at most 64 candidates. -/
import Derived.Test.YtbndgbjenmknmaaDoorQhA
import Derived.Test.YtbndgbjenmknmaaDoorLayS
import Derived.Shelf.SlSortFuncK.BreakPatternsK
import Derived.Deep.LoopGhost
namespace Go.Proofs.YtbndgbjenmknmaaDoor
open Go.RowKit Go.Sort Go.Shelf Go.Lib
set_option linter.unusedVariables false
set_option linter.unusedSimpArgs false
namespace Hq
open Om (bel_alloc below_drewN)
/-! ### what swaps within [a, b) make of a row -/
inductive Sws (a b : Nat) (f : Nat → Cd) : (Nat → Cd) → Prop
  | refl : Sws a b f f
  | step {g : Nat → Cd} {i j : Nat} : Sws a b f g → a ≤ i → i < b → a ≤ j → j < b → Sws a b f (Hp.sw g i j)
theorem Sws.trans {a b : Nat} {f g h : Nat → Cd} (h1 : Sws a b f g) (h2 : Sws a b g h) : Sws a b f h := by
  induction h2 with
  | refl => exact h1
  | step _ i1 i2 j1 j2 ih => exact ih.step i1 i2 j1 j2
theorem Sws.mono {a b a' b' : Nat} {f g : Nat → Cd} (h : Sws a b f g) (ha : a' ≤ a) (hb : b ≤ b') : Sws a' b' f g := by
  induction h with
  | refl => exact .refl
  | step _ i1 i2 j1 j2 ih => exact ih.step (by omega) (by omega) (by omega) (by omega)
theorem Sws.far {a b : Nat} {f g : Nat → Cd} (h : Sws a b f g) : ∀ k, k < a ∨ b ≤ k → g k = f k := by
  induction h with
  | refl => exact fun _ _ => rfl
  | step _ i1 i2 j1 j2 ih => exact fun k hk => (Hp.sw_o _ (by omega) (by omega)).trans (ih k hk)
/-- what lies at a place of [a, b) lay at one before -/
theorem Sws.old {a b : Nat} {f g : Nat → Cd} (h : Sws a b f g) : ∀ k, a ≤ k → k < b → ∃ j, a ≤ j ∧ j < b ∧ g k = f j := by
  induction h with
  | refl => exact fun k h1 h2 => ⟨k, h1, h2, rfl⟩
  | @step g i j _ i1 i2 j1 j2 ih =>
    intro k h1 h2
    by_cases e1 : k = i
    · subst e1; rw [Hp.sw_l]; exact ih j j1 j2
    · by_cases e2 : k = j
      · subst e2; rw [Hp.sw_r]; exact ih i i1 i2
      · rw [Hp.sw_o _ e1 e2]; exact ih k h1 h2
theorem Sws.once {a b n : Nat} {f g : Nat → Cd} (h : Sws a b f g) (hb : b ≤ n) {m : Cd → Int} (ho : Hp.Once m f n) : Hp.Once m g n := by
  induction h with
  | refl => exact ho
  | step _ i1 i2 j1 j2 ih => exact Hp.once_sw ih (by omega) (by omega)
theorem Sws.mem {b n : Nat} {a : Nat} {f g : Nat → Cd} (h : Sws a b f g) (hb : b ≤ n) (x : Cd) : Hp.Mem g n x ↔ Hp.Mem f n x := by
  induction h with
  | refl => exact Iff.rfl
  | step _ i1 i2 j1 j2 ih => exact (Hp.mem_sw (by omega) (by omega) x).trans ih
/-- ascending on [a, b) -/
def Srt (a b : Nat) (f : Nat → Cd) : Prop := ∀ p q, a ≤ p → p < q → q < b → (f p).k ≤ (f q).k
/-! ### the worlds -/
/-- the world W is w but for draws, new blocks and the row at g, that holds f -/
def Rw (w : World) (g n : Nat) (f : Nat → Cd) (W : World) : Prop :=
  g < w.heap.size ∧ ∃ d0 d : Array Cd, HoldsK enc 3 w g 0 d0 ∧ d0.size = n ∧ d.size = n ∧ (∀ i, i < n → d[i]! = f i) ∧ SWK enc 3 w g 0 d W
def arr (n : Nat) (f : Nat → Cd) : Array Cd := (Array.range n).map f
theorem arr_size (n : Nat) (f : Nat → Cd) : (arr n f).size = n := by simp [arr]
theorem arr_get {n : Nat} {f : Nat → Cd} {i : Nat} (h : i < n) : (arr n f)[i]! = f i := by
  rw [getElem!_pos _ i (by rw [arr_size]; exact h)]; simp [arr]
theorem holds_of {w : World} {g n : Nat} {f : Nat → Cd} (hc : Cs w g n f) (hf : ∀ o, w.frozen? ⟨g, o, none⟩ = false) : HoldsK enc 3 w g 0 (arr n f) := by
  intro j hj
  rw [size_flatK, arr_size] at hj
  have hk : j / 3 < n := by omega
  obtain ⟨c0, c1, c2⟩ := hc (j / 3) hk
  rw [get_flatK _ _ _ _ (by rw [arr_size]; exact hj), arr_get hk, Nat.zero_add]
  refine ⟨?_, hf j⟩
  rcases (by omega : j % 3 = 0 ∨ j % 3 = 1 ∨ j % 3 = 2) with h | h | h
  · rw [h, show j = j / 3 * 3 by omega]
    rw [show j / 3 * 3 / 3 = j / 3 by omega]; exact c0
  · rw [h, show j = j / 3 * 3 + 1 by omega]
    rw [show (j / 3 * 3 + 1) / 3 = j / 3 by omega]; exact c1
  · rw [h, show j = j / 3 * 3 + 2 by omega]
    rw [show (j / 3 * 3 + 2) / 3 = j / 3 by omega]; exact c2
theorem Rw.start {w : World} {g n : Nat} {f : Nat → Cd} (hc : Cs w g n f) (hf : ∀ o, w.frozen? ⟨g, o, none⟩ = false) (hg : g < w.heap.size) : Rw w g n f w :=
  ⟨hg, arr n f, arr n f, holds_of hc hf, arr_size n f, arr_size n f, fun i hi => arr_get hi, SWK.start (holds_of hc hf)⟩
theorem Rw.holds {w W : World} {g n : Nat} {f : Nat → Cd} (h : Rw w g n f W) : ∃ d : Array Cd, HoldsK enc 3 W g 0 d ∧ d.size = n ∧ ∀ i, i < n → d[i]! = f i := by
  obtain ⟨hg, d0, d, h0, s0, s1, hf, hs⟩ := h
  exact ⟨d, hs.holds hg h0 (by rw [s0, s1]), s1, hf⟩
theorem Rw.cs {w W : World} {g n : Nat} {f : Nat → Cd} (h : Rw w g n f W) : Cs W g n f := fun k hk => by
  obtain ⟨d, hd, hs, hf⟩ := h.holds
  have e := hf k hk
  have c0 := (hd.cell (i := k) (c := 0) (by omega) (by omega)).1
  have c1 := (hd.cell (i := k) (c := 1) (by omega) (by omega)).1
  have c2 := (hd.cell (i := k) (c := 2) (by omega) (by omega)).1
  rw [e] at c0 c1 c2
  rw [Nat.zero_add] at c0 c1 c2
  exact ⟨c0, c1, c2⟩
theorem Rw.le {w W : World} {g n : Nat} {f : Nat → Cd} (h : Rw w g n f W) : w.heap.size ≤ W.heap.size := by
  obtain ⟨_, _, _, _, _, _, _, hs⟩ := h
  exact hs.le
theorem Rw.lt {w W : World} {g n : Nat} {f : Nat → Cd} (h : Rw w g n f W) : g < W.heap.size := Nat.lt_of_lt_of_le h.1 h.le
theorem Rw.fr {w W : World} {g n : Nat} {f : Nat → Cd} (h : Rw w g n f W) : Fr (fun k => k = g) w W := by
  have hle := h.le
  obtain ⟨hg, d0, d, h0, s0, s1, hf, m, os, rfl⟩ := h
  refine ⟨rfl, rfl, rfl, ?_, fun i hi hn => ?_⟩
  · exact hle
  · have hne : g ≠ i := fun e => hn e.symm
    simp [sortWorldK, grow, putRowK, putRow, mapBlock, ahead, Array.getElem?_append, Array.getElem?_modify, hne, hi]
    rw [Array.getElem_modify, if_neg hne]
theorem Rw.congr {w W : World} {g n : Nat} {f f' : Nat → Cd} (h : Rw w g n f W) (he : ∀ i, i < n → f' i = f i) : Rw w g n f' W := by
  obtain ⟨hg, d0, d, h0, s0, s1, hf, hs⟩ := h
  exact ⟨hg, d0, d, h0, s0, s1, fun i hi => (hf i hi).trans (he i hi).symm, hs⟩
theorem Rw.drewN {w W : World} {g n : Nat} {f : Nat → Cd} (h : Rw w g n f W) (q : Nat) : Rw w g n f (W.drewN q) := by
  obtain ⟨hg, d0, d, h0, s0, s1, hf, hs⟩ := h
  exact ⟨hg, d0, d, h0, s0, s1, hf, hs.drewN q⟩
theorem Rw.alloc {w W : World} {g n : Nat} {f : Nat → Cd} (h : Rw w g n f W) (o : Obj) : Rw w g n f (W.alloc o) := by
  obtain ⟨hg, d0, d, h0, s0, s1, hf, hs⟩ := h
  exact ⟨hg, d0, d, h0, s0, s1, hf, hs.alloc o⟩
theorem Rw.set {w W : World} {g n : Nat} {f : Nat → Cd} (h : Rw w g n f W) (b o : Nat) (v : Value) (hb : w.heap.size ≤ b) : Rw w g n f (W.setCell ⟨b, o, none⟩ v) := by
  obtain ⟨hg, d0, d, h0, s0, s1, hf, hs⟩ := h
  exact ⟨hg, d0, d, h0, s0, s1, hf, hs.setCell_new b o v hb⟩
/-- from there on -/
theorem Rw.again {w W : World} {g n : Nat} {f : Nat → Cd} (h : Rw w g n f W) : Rw W g n f W := by
  obtain ⟨d, hd, hs, hf⟩ := h.holds
  exact ⟨h.lt, d, d, hd, hs, hs, hf, SWK.start hd⟩
theorem Rw.on {w W W' : World} {g n : Nat} {f f' : Nat → Cd} (h : Rw w g n f W) (h' : Rw W g n f' W') : Rw w g n f' W' := by
  obtain ⟨hg, d0, d, h0, s0, s1, hf, hs⟩ := h
  obtain ⟨_, _, d', _, _, s1', hf', m, os, rfl⟩ := h'
  exact ⟨hg, d0, d', h0, s0, s1', hf', hs.on hg m d' os (by rw [s1, s1'])⟩
theorem less_c (q n c i j : Nat) (a : Nat → Cd) (w : World) (hc : Cs w q n a) (hi : i < n) (hj : j < n) (hn : n ≤ 64) :
    Calls Tryd.prog 32 #[.slice (some ⟨q, 0, none⟩) n c, .int .i64 i, .int .i64 j] w fun e w' => e = .returned (.bool (decide ((a i).k < (a j).k))) ∧ ∃ d, w' = w.drewN d := by
  obtain ⟨c0, _, _⟩ := hc i hi
  obtain ⟨d0, _, _⟩ := hc j hj
  go_enter Tryd.func32, Tryd.ntmps32
  go_wp2
  go_quiet (fail)
  go_wp2
  go_ret
  exact ⟨rfl, _, rfl⟩
theorem Rw.less {w W : World} {g n c i j : Nat} {f : Nat → Cd} (h : Rw w g n f W) (hn : n ≤ 64) (hi : i < n) (hj : j < n) :
    Calls Tryd.prog 32 #[.slice (some ⟨g, 0, none⟩) n c, .int .i64 i, .int .i64 j] W fun e w' => e = .returned (.bool (decide ((f i).k < (f j).k))) ∧ ∃ d, w' = W.drewN d :=
  less_c g n c i j f W h.cs hi hj hn
/-- the library's own swap of two places -/
def Swp (sf : Nat) (sb : Array Value) (g n : Nat) : Prop := SwapSwapsK Tryd.prog sf sb enc 3 g 0 n
def sw3 (W : World) (g i j : Nat) (x y : Cd) : World := (W.setCells g (0 + i * 3) (enc y)).setCells g (0 + j * 3) (enc x)
theorem Rw.swap {w W : World} {g n i j sf : Nat} {sb : Array Value} {f : Nat → Cd} (h : Rw w g n f W) (hs : Swp sf sb g n) (hi : i < n) (hj : j < n) :
    (callFunc sf (#[.int .i64 i, .int .i64 j] ++ sb)).run Tryd.prog W = .ok (.value (.tuple #[])) (sw3 W g i j (f i) (f j)) ∧ Rw w g n (Hp.sw f i j) (sw3 W g i j (f i) (f j)) := by
  obtain ⟨d, hd, s, hf⟩ := h.holds
  have h1 := hs W d hd s i j hi hj
  rw [hf i hi, hf j hj] at h1
  refine ⟨h1, ?_⟩
  obtain ⟨hg, d0, d, h0, s0, s1, hf, hsw⟩ := h
  have h2 := hsw.swap (fun x => enc_len x) hg i j (by omega) (by omega)
  rw [hf i hi, hf j hj] at h2
  refine ⟨hg, d0, swp d i j, h0, s0, by rw [size_swp, s1], fun k hk => ?_, h2⟩
  rw [swp_get d (by omega) (by omega)]
  unfold Hp.sw
  by_cases e1 : k = j
  · subst e1
    by_cases e2 : k = i
    · subst e2; simp [hf k hk]
    · simp [e2, hf i hi]
  · by_cases e2 : k = i
    · simp [e1, e2, hf j hj]; intro e; exact absurd (e2.trans e) e1
    · simp [e1, e2, hf k hk]
theorem Rw.far {w W : World} {g n : Nat} {f : Nat → Cd} (h : Rw w g n f W) {k : Nat} (hk : k < w.heap.size) (hg : k ≠ g) (o : Nat) : W.cell? ⟨k, o, none⟩ = w.cell? ⟨k, o, none⟩ :=
  World.cell?_of_block (a := ⟨k, o, none⟩) (h.fr.block k hk hg)
theorem Rw.farf {w W : World} {g n : Nat} {f : Nat → Cd} (h : Rw w g n f W) {k : Nat} (hk : k < w.heap.size) (hg : k ≠ g) (o : Nat) : W.frozen? ⟨k, o, none⟩ = w.frozen? ⟨k, o, none⟩ :=
  World.frozen?_of_block (a := ⟨k, o, none⟩) (h.fr.block k hk hg)
/-- less, bound to the row; swap -/
def lsV (g n c : Nat) : Value := .func (.func 32) #[.slice (some ⟨g, 0, none⟩) n c] #[]
def swV (sf : Nat) (sb : Array Value) : Value := .func (.func sf) #[] sb
end Hq
end Go.Proofs.YtbndgbjenmknmaaDoor
