/- A list of deeds in memory; run of leapfroglaw08: contract of the translated code, and what a run makes. Conditions: the bounds of each number's kind; at most 300 words and 200 deeds. -/
import Derived.Test.YtjocbmoelkobaaaWdX
namespace Go.Proofs.Ytjocbmoelkobaaa
open Go.RowKit Go.Sort Go.ChangeShapes Go.WideShapes Go.Deep
set_option linter.unusedVariables false
set_option linter.unusedSimpArgs false
namespace Wd
open Dm (addr_lit info_parts spot_none RdK flatU infoU bel_alloc bel_trans own_keep below_drewN)
/-- the cells of a deed at ⟨b, o⟩ -/
structure D5 (w : World) (b o : Nat) (x : Dd) : Prop where
  c0 : w.cell? ⟨b, o, none⟩ = some (.int .u8 x.d)
  c1 : w.cell? ⟨b, o + 1, none⟩ = some (.int .i64 x.t)
  c2 : w.cell? ⟨b, o + 2, none⟩ = some (.int .i64 x.a)
  c3 : w.cell? ⟨b, o + 3, none⟩ = some (.int .u64 x.o)
  c4 : w.cell? ⟨b, o + 4, none⟩ = some (.int .u64 x.v)
theorem D5.keep {w w' : World} {b o : Nat} {x : Dd} (h : D5 w b o x) (hb : w'.heap[b]? = w.heap[b]?) : D5 w' b o x := by
  have k : ∀ j, w'.cell? ⟨b, j, none⟩ = w.cell? ⟨b, j, none⟩ := fun j => World.cell?_of_block (a := ⟨b, j, none⟩) hb
  exact ⟨(k _).trans h.c0, (k _).trans h.c1, (k _).trans h.c2, (k _).trans h.c3, (k _).trans h.c4⟩
/-- from the address A on lie the deeds l -/
def RdD (w : World) (A : Option Addr) (l : List Dd) : Prop := ∀ (i : Nat) (x : Dd), l[i]? = some x → ∃ b o, A = some ⟨b, o, none⟩ ∧ D5 w b (o + i * 5) x
theorem RdD.below {w w' : World} {A : Option Addr} {l : List Dd} (h : RdD w A l) (hb : Below w.heap.size w w') : RdD w' A l := by
  intro i x hi
  obtain ⟨b, o, e, c⟩ := h i x hi
  exact ⟨b, o, e, c.keep (hb.block b (World.block_lt_of_cell? w _ c.c0))⟩
theorem dd_get {L : List Dd} {j : Nat} (h : j < L.length) : ∃ x, L[j]? = some x ∧ x ∈ L := ⟨_, List.getElem?_eq_getElem h, List.getElem_mem h⟩
/-! ### what a run makes -/
def nrm (n : Nat) (x : Dd) : Dd := ⟨x.d, x.t % 64, x.a % (n : Int), x.o, x.v⟩
def step (n : Nat) (M : Wm) (x : Dd) : Wm := M.deed (nrm n x)
def runM (W : List Int) (l : List Dd) : Wm := l.foldl (step W.length) ⟨W, []⟩
theorem run_snoc (W : List Int) (l : List Dd) (x : Dd) : runM W (l ++ [x]) = step W.length (runM W l) x := by simp [runM]
theorem take_dd {L : List Dd} {j : Nat} {x : Dd} (h : L[j]? = some x) : L.take (j + 1) = L.take j ++ [x] := by rw [List.take_add_one, h]; rfl
/-- a memory that accesses led to -/
structure Gd (W : List Int) (M : Wm) : Prop where
  w : M.W = lead W M.L
  g : Good W M.L
theorem Gd.len {W : List Int} {M : Wm} (h : Gd W M) : M.W.length = W.length := by rw [h.w, lead_len]
theorem Gd.put {W : List Int} {M : Wm} {t a k n : Int} {s : Bool} (h : Gd W M) (hx : ok M.W ⟨t, a, k, M.get a, n, s⟩) : Gd W (M.put t a k n s) := by
  refine ⟨?_, h.g.snoc (by rw [← h.w]; exact hx)⟩
  show M.W.set a.toNat n = lead W (M.L ++ [⟨t, a, k, M.get a, n, s⟩])
  rw [lead_snoc, ← h.w]
theorem Gd.step {W : List Int} {M : Wm} (h : Gd W M) (h0 : 0 < W.length) (x : Dd) : Gd W (step W.length M x) ∧ (step W.length M x).L.length ≤ M.L.length + 1 := by
  have ht : 0 ≤ x.t % 64 ∧ x.t % 64 < 64 := by omega
  have ha : 0 ≤ x.a % (W.length : Int) ∧ x.a % (W.length : Int) < M.W.length := by
    rw [h.len]
    exact ⟨Int.emod_nonneg _ (by omega), Int.emod_lt_of_pos _ (by omega)⟩
  unfold Wd.step Wm.deed nrm
  simp only
  by_cases c0 : x.d % 5 = 0
  · rw [if_pos c0]
    exact ⟨h.put ⟨ht, ha, rfl, .inl ⟨rfl, rfl, rfl⟩⟩, by simp [Wm.load, Wm.put]⟩
  rw [if_neg c0]
  by_cases c1 : x.d % 5 = 1
  · rw [if_pos c1]
    exact ⟨h.put ⟨ht, ha, rfl, .inr (.inl ⟨.inl rfl, rfl⟩)⟩, by simp [Wm.stor, Wm.put]⟩
  rw [if_neg c1]
  by_cases c2 : x.d % 5 = 2
  · rw [if_pos c2]
    exact ⟨h.put ⟨ht, ha, rfl, .inr (.inl ⟨.inr rfl, rfl⟩)⟩, by simp [Wm.addw, Wm.put]⟩
  rw [if_neg c2]
  by_cases c3 : x.d % 5 = 3
  · rw [if_pos c3]
    unfold Wm.cas
    split
    · exact ⟨h.put ⟨ht, ha, rfl, .inr (.inr ⟨rfl, .inl rfl⟩)⟩, by simp [Wm.put]⟩
    · exact ⟨h.put ⟨ht, ha, rfl, .inr (.inr ⟨rfl, .inr rfl⟩)⟩, by simp [Wm.put]⟩
  · rw [if_neg c3]; exact ⟨h, Nat.le_succ _⟩
theorem run_good (W : List Int) (h0 : 0 < W.length) : ∀ l : List Dd, Gd W (runM W l) ∧ (runM W l).L.length ≤ l.length := fun l => by
  have key : ∀ (l : List Dd) (M : Wm), Gd W M → Gd W (l.foldl (step W.length) M) ∧ (l.foldl (step W.length) M).L.length ≤ M.L.length + l.length := by
    intro l
    induction l with
    | nil => intro M h; exact ⟨h, Nat.le_refl _⟩
    | cons x l ih =>
      intro M h
      obtain ⟨h1, h2⟩ := h.step h0 x
      obtain ⟨h3, h4⟩ := ih _ h1
      exact ⟨h3, by simp only [List.foldl_cons, List.length_cons]; omega⟩
  have := key l ⟨W, []⟩ ⟨rfl, fun i x hx => by simp at hx⟩
  exact ⟨this.1, by have h := this.2; simp only [List.length_nil, Nat.zero_add] at h; exact h⟩
/-! ### run -/
/-- what run hands out -/
def RnP (M : Wm) (w : World) (e : Ending) (w' : World) : Prop := ∃ b p q, e = .returned (.pointer (some ⟨b, 0, none⟩)) ∧ At 73 w' b p q M ∧ (∀ i, Of b p q i → w.heap.size ≤ i) ∧ Below w.heap.size w w'
theorem newE_ok {n : Nat} (h0 : 0 < n) (h1 : n ≤ 300) : newE n = 0 := by unfold newE; rw [if_neg (by omega), if_neg (by omega)]
end Wd
end Go.Proofs.Ytjocbmoelkobaaa
