/- Candidates in a row of memory, and the methods of the queue of candidates in package merge: contracts of the translated code. Conditions: the bounds of each number's kind. -/
import Derived.Test.YtbndgbjenmknmaaDoorOmP
import Derived.Test.YtbndgbjenmknmaaDoorHpM
namespace Go.Proofs.YtbndgbjenmknmaaDoor
open Go.RowKit Go.Sort
set_option linter.unusedVariables false
set_option linter.unusedSimpArgs false
namespace Hq
/-- a candidate: key, value, list -/
structure Cd where
  k : Int
  v : Int
  l : Nat
instance : Inhabited Cd := ⟨⟨0, 0, 0⟩⟩
def enc (x : Cd) : List Value := [.int .u64 x.k, .int .u64 x.v, .int .i64 x.l]
theorem enc_len (x : Cd) : (enc x).length = 3 := rfl
def agg (x : Cd) : Value := .agg #[.int .u64 x.k, .int .u64 x.v, .int .i64 x.l]
/-- the block of a row of candidates -/
def Shp (w : World) (q cap : Nat) : Prop := cap ≤ maxLen ∧ ∃ cur : Array Value, w.heap[q]? = some (.cells cur 73 (0, 0)) ∧ cur.size = cap * 3
/-- its first n places hold a 0, a 1, .. -/
def Cs (w : World) (q n : Nat) (a : Nat → Cd) : Prop := ∀ k, k < n → w.cell? ⟨q, k * 3, none⟩ = some (.int .u64 (a k).k) ∧ w.cell? ⟨q, k * 3 + 1, none⟩ = some (.int .u64 (a k).v) ∧ w.cell? ⟨q, k * 3 + 2, none⟩ = some (.int .i64 (a k).l)
theorem Shp.lt {w : World} {q cap : Nat} (h : Shp w q cap) : q < w.heap.size := by
  obtain ⟨_, cur, h1, _⟩ := h
  exact (Array.getElem?_eq_some_iff.1 h1).1
theorem Shp.frozen {w : World} {q cap : Nat} (h : Shp w q cap) (o : Nat) : w.frozen? ⟨q, o, none⟩ = false := by
  obtain ⟨_, cur, h1, _⟩ := h
  simp [World.frozen?, h1]
/-- the place i is written -/
def set3 (w : World) (q i : Nat) (x : Cd) : World := ((w.setCell ⟨q, i * 3, none⟩ (.int .u64 x.k)).setCell ⟨q, i * 3 + 1, none⟩ (.int .u64 x.v)).setCell ⟨q, i * 3 + 2, none⟩ (.int .i64 x.l)
theorem set3_cell {w : World} {q i : Nat} {x y : Cd} (hy : w.cell? ⟨q, i * 3, none⟩ = some (.int .u64 y.k) ∧ w.cell? ⟨q, i * 3 + 1, none⟩ = some (.int .u64 y.v) ∧ w.cell? ⟨q, i * 3 + 2, none⟩ = some (.int .i64 y.l)) :
    (set3 w q i x).cell? ⟨q, i * 3, none⟩ = some (.int .u64 x.k) ∧ (set3 w q i x).cell? ⟨q, i * 3 + 1, none⟩ = some (.int .u64 x.v) ∧ (set3 w q i x).cell? ⟨q, i * 3 + 2, none⟩ = some (.int .i64 x.l) := by
  obtain ⟨h0, h1, h2⟩ := hy
  unfold set3
  have ne : ∀ {o o' : Nat}, o ≠ o' → (⟨q, o, none⟩ : Addr) ≠ ⟨q, o', none⟩ := fun h e => h (by cases e; rfl)
  refine ⟨?_, ?_, ?_⟩
  · rw [World.cell?_setCell_other _ _ _ _ (ne (by omega)), World.cell?_setCell_other _ _ _ _ (ne (by omega))]; exact World.cell?_setCell_same _ _ _ h0
  · rw [World.cell?_setCell_other _ _ _ _ (ne (by omega))]; refine World.cell?_setCell_same (u := .int .u64 y.v) _ _ _ ?_
    rw [World.cell?_setCell_other _ _ _ _ (ne (by omega))]; exact h1
  · refine World.cell?_setCell_same (u := .int .i64 y.l) _ _ _ ?_
    rw [World.cell?_setCell_other _ _ _ _ (ne (by omega)), World.cell?_setCell_other _ _ _ _ (ne (by omega))]; exact h2
theorem set3_other {w : World} {q i o : Nat} {x : Cd} (h : o < i * 3 ∨ i * 3 + 3 ≤ o) : (set3 w q i x).cell? ⟨q, o, none⟩ = w.cell? ⟨q, o, none⟩ := by
  have ne : ∀ {o o' : Nat}, o ≠ o' → (⟨q, o, none⟩ : Addr) ≠ ⟨q, o', none⟩ := fun h e => h (by cases e; rfl)
  unfold set3
  rw [World.cell?_setCell_other _ _ _ _ (ne (by omega)), World.cell?_setCell_other _ _ _ _ (ne (by omega)), World.cell?_setCell_other _ _ _ _ (ne (by omega))]
theorem Cs.set {w : World} {q n i : Nat} {a : Nat → Cd} {x : Cd} (h : Cs w q n a) (hi : i < n) : Cs (set3 w q i x) q n (fun k => if k = i then x else a k) := fun k hk => by
  by_cases e : k = i
  · subst e
    simp only [if_true]
    exact set3_cell (h k hk)
  · simp only [if_neg e]
    rw [set3_other (by omega), set3_other (by omega), set3_other (by omega)]; exact h k hk
theorem Shp.set {w : World} {q cap : Nat} (h : Shp w q cap) (p : Addr) (v : Value) : Shp (w.setCell p v) q cap := by
  obtain ⟨hm, cur, h1, h2⟩ := h
  refine ⟨hm, ?_⟩
  by_cases e : p.block = q
  · subst e
    refine ⟨if p.spot.isSome = true then cur else cur.setIfInBounds p.off v, ?_, by split <;> simpa using h2⟩
    have hlt := (Array.getElem?_eq_some_iff.1 h1).1
    have hv := (Array.getElem?_eq_some_iff.1 h1).2
    simp [World.setCell, Array.getElem?_modify, hlt]
    rw [Array.getElem_modify_self, hv]
  · exact ⟨cur, (Below.heap_setCell w p v q (fun h => e h.symm)).trans h1, h2⟩
/-- what may have changed: the blocks in B, and what is new -/
structure Fr (B : Nat → Prop) (w w' : World) : Prop where
  os : w'.os = w.os
  tape : w'.tape = w.tape
  output : w'.output = w.output
  size : w.heap.size ≤ w'.heap.size
  block : ∀ k, k < w.heap.size → ¬ B k → w'.heap[k]? = w.heap[k]?
theorem Fr.refl (B : Nat → Prop) (w : World) : Fr B w w := ⟨rfl, rfl, rfl, Nat.le_refl _, fun _ _ _ => rfl⟩
theorem Fr.trans {B B' : Nat → Prop} {u v w : World} (h : Fr B u v) (k : Fr B' v w) (hs : ∀ k, k < u.heap.size → B' k → B k) : Fr B u w :=
  ⟨k.os.trans h.os, k.tape.trans h.tape, k.output.trans h.output, Nat.le_trans h.size k.size, fun i hi hn => (k.block i (Nat.lt_of_lt_of_le hi h.size) fun e => hn (hs i hi e)).trans (h.block i hi hn)⟩
theorem Fr.mono {B B' : Nat → Prop} {w w' : World} (h : Fr B w w') (hs : ∀ k, B k → B' k) : Fr B' w w' := ⟨h.os, h.tape, h.output, h.size, fun k hk hn => h.block k hk fun e => hn (hs k e)⟩
theorem Fr.of_below {B : Nat → Prop} {w w' : World} (h : Below w.heap.size w w') : Fr B w w' := ⟨h.os, h.tape, h.output, h.size, fun k hk _ => h.block k hk⟩
theorem Fr.drewN {B : Nat → Prop} {w w' : World} (h : Fr B w w') (d : Nat) : Fr B w (w'.drewN d) := ⟨h.os, h.tape, h.output, h.size, h.block⟩
theorem Fr.set {B : Nat → Prop} {w w' : World} (h : Fr B w w') (p : Addr) (v : Value) (hp : B p.block ∨ w.heap.size ≤ p.block) : Fr B w (w'.setCell p v) :=
  ⟨h.os, h.tape, h.output, Nat.le_trans h.size (Nat.le_of_eq (by simp)), fun k hk hn => (Below.heap_setCell w' p v k (fun e => by rcases hp with h | h; (exact hn (e ▸ h)); omega)).trans (h.block k hk hn)⟩
theorem Fr.alloc {B : Nat → Prop} {w w' : World} (h : Fr B w w') (o : Obj) : Fr B w (w'.alloc o) :=
  ⟨h.os, h.tape, h.output, Nat.le_trans h.size (by simp), fun k hk hn => by
    exact (((Below.refl w'.heap.size w').alloc (Nat.le_refl _) o).block k (Nat.lt_of_lt_of_le hk h.size)).trans (h.block k hk hn)⟩
theorem Fr.below {B : Nat → Prop} {n : Nat} {w w' : World} (h : Fr B w w') (hB : ∀ k, B k → n ≤ k) (hw : n ≤ w.heap.size) : Below n w w' := ⟨h.os, h.tape, h.output, h.size, fun k hk => h.block k (Nat.lt_of_lt_of_le hk hw) fun e => by have := hB k e; omega⟩
/-- the same, and of the block b only the cell 2 has changed -/
structure Ch (b : Nat) (B : Nat → Prop) (w w' : World) : Prop where
  fr : Fr B w w'
  off : b < w.heap.size → ∀ o, o ≠ 2 → w'.cell? ⟨b, o, none⟩ = w.cell? ⟨b, o, none⟩ ∧ w'.frozen? ⟨b, o, none⟩ = w.frozen? ⟨b, o, none⟩
theorem Ch.size {b : Nat} {B : Nat → Prop} {w w' : World} (h : Ch b B w w') : w.heap.size ≤ w'.heap.size := h.fr.size
theorem Ch.block {b : Nat} {B : Nat → Prop} {w w' : World} (h : Ch b B w w') : ∀ k, k < w.heap.size → ¬ B k → w'.heap[k]? = w.heap[k]? := h.fr.block
theorem Ch.refl (b : Nat) (B : Nat → Prop) (w : World) : Ch b B w w := ⟨Fr.refl B w, fun _ _ _ => ⟨rfl, rfl⟩⟩
theorem Ch.trans {b : Nat} {B B' : Nat → Prop} {u v w : World} (h : Ch b B u v) (k : Ch b B' v w) (hs : ∀ k, k < u.heap.size → B' k → B k) : Ch b B u w :=
  ⟨h.fr.trans k.fr hs, fun hb o ho => ⟨(k.off (Nat.lt_of_lt_of_le hb h.size) o ho).1.trans (h.off hb o ho).1, (k.off (Nat.lt_of_lt_of_le hb h.size) o ho).2.trans (h.off hb o ho).2⟩⟩
theorem Ch.mono {b : Nat} {B B' : Nat → Prop} {w w' : World} (h : Ch b B w w') (hs : ∀ k, B k → B' k) : Ch b B' w w' := ⟨h.fr.mono hs, h.off⟩
theorem Ch.of_below {b : Nat} {B : Nat → Prop} {w w' : World} (h : Below w.heap.size w w') : Ch b B w w' := ⟨Fr.of_below h, fun hb o _ => ⟨World.cell?_of_block (a := ⟨b, o, none⟩) (h.block b hb), World.frozen?_of_block (a := ⟨b, o, none⟩) (h.block b hb)⟩⟩
theorem Ch.of_fr {b : Nat} {B : Nat → Prop} {w w' : World} (h : Fr B w w') (hB : ¬ B b) : Ch b B w w' := ⟨h, fun hb o _ => ⟨World.cell?_of_block (a := ⟨b, o, none⟩) (h.block b hb hB), World.frozen?_of_block (a := ⟨b, o, none⟩) (h.block b hb hB)⟩⟩
theorem Ch.drewN {b : Nat} {B : Nat → Prop} {w w' : World} (h : Ch b B w w') (d : Nat) : Ch b B w (w'.drewN d) := ⟨h.fr.drewN d, h.off⟩
theorem Ch.set {b : Nat} {B : Nat → Prop} {w w' : World} (h : Ch b B w w') (p : Addr) (v : Value) (hp : (B p.block ∧ (p.block = b → p.off = 2)) ∨ w.heap.size ≤ p.block) : Ch b B w (w'.setCell p v) :=
  ⟨h.fr.set p v (hp.imp And.left id), fun hb o ho => by
    refine ⟨?_, by rw [World.frozen?_setCell]; exact (h.off hb o ho).2⟩
    have hne : p ≠ ⟨b, o, none⟩ := fun e => by
      have e1 : p.block = b := by rw [e]
      have e2 : p.off = o := by rw [e]
      rcases hp with ⟨_, h2⟩ | h2
      · exact ho (by rw [← e2]; exact h2 e1)
      · rw [e1] at h2; omega
    first | rw [World.cell?_setCell_other _ _ _ _ hne] | rw [World.cell?_setCell_other _ _ _ _ hne.symm]
    exact (h.off hb o ho).1⟩
theorem Ch.alloc {b : Nat} {B : Nat → Prop} {w w' : World} (h : Ch b B w w') (o : Obj) : Ch b B w (w'.alloc o) :=
  h.trans (B' := B) (Ch.of_below ((Below.refl w'.heap.size w').alloc (Nat.le_refl _) o)) fun _ _ h => h
theorem Ch.set3 {b : Nat} {B : Nat → Prop} {w w' : World} (h : Ch b B w w') (q i : Nat) (x : Cd) (hq : B q) (hb : q ≠ b) : Ch b B w (set3 w' q i x) :=
  ((h.set ⟨q, i * 3, none⟩ _ (.inl ⟨hq, fun e => absurd e hb⟩)).set ⟨q, i * 3 + 1, none⟩ _ (.inl ⟨hq, fun e => absurd e hb⟩)).set ⟨q, i * 3 + 2, none⟩ _ (.inl ⟨hq, fun e => absurd e hb⟩)
theorem Shp.keep {w w' : World} {q c : Nat} (h : Shp w q c) (hb : w'.heap[q]? = w.heap[q]?) : Shp w' q c := by
  obtain ⟨hm, cur, h1, h2⟩ := h
  exact ⟨hm, cur, hb.trans h1, h2⟩
theorem Cs.keep {w w' : World} {q n : Nat} {a : Nat → Cd} (h : Cs w q n a) (hb : w'.heap[q]? = w.heap[q]?) : Cs w' q n a := fun k hk => by
  obtain ⟨c0, c1, c2⟩ := h k hk
  exact ⟨(World.cell?_of_block (a := ⟨q, _, none⟩) hb).trans c0, (World.cell?_of_block (a := ⟨q, _, none⟩) hb).trans c1, (World.cell?_of_block (a := ⟨q, _, none⟩) hb).trans c2⟩
theorem Shp.set3 {w : World} {q c : Nat} (h : Shp w q c) (q' i : Nat) (x : Cd) : Shp (set3 w q' i x) q c := ((h.set _ _).set _ _).set _ _
/-- the queue at the block b: its row, of n candidates a, lies in the block q -/
structure Qu (w : World) (b q n c : Nat) (a : Nat → Cd) : Prop where
  hd : w.cell? ⟨b, 2, none⟩ = some (.slice (some ⟨q, 0, none⟩) n c)
  fz : w.frozen? ⟨b, 2, none⟩ = false
  shp : Shp w q c
  cs : Cs w q n a
  nc : n ≤ c
  ne : q ≠ b
  n64 : n ≤ 64
theorem Qu.keep {w w' : World} {b q n c : Nat} {a : Nat → Cd} (h : Qu w b q n c a) (h1 : w'.heap[b]? = w.heap[b]?) (h2 : w'.heap[q]? = w.heap[q]?) : Qu w' b q n c a :=
  ⟨(World.cell?_of_block (a := ⟨b, 2, none⟩) h1).trans h.hd, (World.frozen?_of_block (a := ⟨b, 2, none⟩) h1).trans h.fz, h.shp.keep h2, h.cs.keep h2, h.nc, h.ne, h.n64⟩
theorem Qu.lt {w : World} {b q n c : Nat} {a : Nat → Cd} (h : Qu w b q n c a) : b < w.heap.size ∧ q < w.heap.size := ⟨World.block_lt_of_cell? w ⟨b, 2, none⟩ h.hd, h.shp.lt⟩
theorem Qu.below {w w' : World} {b q n c : Nat} {a : Nat → Cd} (h : Qu w b q n c a) (hb : Below w.heap.size w w') : Qu w' b q n c a := h.keep (hb.block b h.lt.1) (hb.block q h.lt.2)
theorem Qu.drewN {w : World} {b q n c : Nat} {a : Nat → Cd} (h : Qu w b q n c a) (d : Nat) : Qu (w.drewN d) b q n c a := h.keep rfl rfl
theorem Qu.swap {w : World} {b q n c i j : Nat} {a : Nat → Cd} (h : Qu w b q n c a) (hi : i < n) (hj : j < n) : Qu (set3 (set3 w q i (a j)) q j (a i)) b q n c (Hp.sw a i j) := by
  have far : ∀ (W : World) (i : Nat) (x : Cd), (Hq.set3 W q i x).heap[b]? = W.heap[b]? := fun W i x => by
    unfold Hq.set3
    rw [Below.heap_setCell _ _ _ _ (Ne.symm h.ne), Below.heap_setCell _ _ _ _ (Ne.symm h.ne), Below.heap_setCell _ _ _ _ (Ne.symm h.ne)]
  refine ⟨?_, ?_, (h.shp.set3 _ _ _).set3 _ _ _, ?_, h.nc, h.ne, h.n64⟩
  · exact (World.cell?_of_block (a := ⟨b, 2, none⟩) ((far _ _ _).trans (far _ _ _))).trans h.hd
  · exact (World.frozen?_of_block (a := ⟨b, 2, none⟩) ((far _ _ _).trans (far _ _ _))).trans h.fz
  · have e : Hp.sw a i j = fun k => if k = j then a i else (fun k => if k = i then a j else a k) k := by
      funext k
      unfold Hp.sw
      by_cases e1 : k = j
      · subst e1
        by_cases e2 : k = i
        · subst e2; simp
        · simp [e2]
      · by_cases e2 : k = i
        · simp [e2, e1]; intro h; exact absurd (e2.trans h) e1
        · simp [e2, e1]
    rw [e]
    exact (h.cs.set hi).set hj
theorem less_x (q n c i j : Nat) (a : Nat → Cd) (w : World) (hs : Shp w q c) (hc : Cs w q n a) (hi : i < n) (hj : j < n) (hn : n ≤ 64) :
    Calls Tryd.prog 32 #[.slice (some ⟨q, 0, none⟩) n c, .int .i64 i, .int .i64 j] w fun e w' => e = .returned (.bool (decide ((a i).k < (a j).k))) ∧ ∃ d, w' = w.drewN d := by
  obtain ⟨c0, _, _⟩ := hc i hi
  obtain ⟨d0, _, _⟩ := hc j hj
  go_enter Tryd.func32, Tryd.ntmps32
  go_wp2
  go_quiet (fail)
  go_wp2
  go_ret
  exact ⟨rfl, _, rfl⟩
theorem len_x (A : Option Addr) (n c : Nat) (w : World) :
    Calls Tryd.prog 98 #[.slice A n c] w fun e w' => e = .returned (.int .i64 n) ∧ w = w' := by
  go_enter Tryd.func98, Tryd.ntmps98
  go_wp2
  go_ret
  exact ⟨rfl, rfl⟩
theorem swap_x (q n c i j : Nat) (a : Nat → Cd) (w : World) (hs : Shp w q c) (hc : Cs w q n a) (hi : i < n) (hj : j < n) (hn : n ≤ 64) :
    Calls Tryd.prog 99 #[.slice (some ⟨q, 0, none⟩) n c, .int .i64 i, .int .i64 j] w fun e w' => e = .returned (.tuple #[]) ∧ ∃ d, w' = (set3 (set3 w q i (a j)) q j (a i)).drewN d := by
  by_cases hij : i = j
  · subst hij
    obtain ⟨c0, c1, c2⟩ := hc i hi
    have f1 := hs.frozen (i * 3)
    have f2 := hs.frozen (i * 3 + 1)
    have f3 := hs.frozen (i * 3 + 2)
    go_enter Tryd.func99, Tryd.ntmps99
    go_wp2
    go_region
    go_wp2
    go_end0
    exact ⟨rfl, _, rfl⟩
  · have hji : ¬ j = i := fun e => hij e.symm
    obtain ⟨c0, c1, c2⟩ := hc i hi
    obtain ⟨d0, d1, d2⟩ := hc j hj
    have f1 := hs.frozen (i * 3)
    have f2 := hs.frozen (i * 3 + 1)
    have f3 := hs.frozen (i * 3 + 2)
    have g1 := hs.frozen (j * 3)
    have g2 := hs.frozen (j * 3 + 1)
    have g3 := hs.frozen (j * 3 + 2)
    go_enter Tryd.func99, Tryd.ntmps99
    go_wp2
    go_region
    go_wp2
    go_end0
    exact ⟨rfl, _, rfl⟩
/-- the queue's own: b and q -/
def Two (b q : Nat) : Nat → Prop := fun k => k = b ∨ k = q
theorem swap_q {b q n c i j : Nat} {a : Nat → Cd} {w : World} (h : Qu w b q n c a) (hi : i < n) (hj : j < n) :
    Calls Tryd.prog 99 #[.slice (some ⟨q, 0, none⟩) n c, .int .i64 i, .int .i64 j] w fun e w' => e = .returned (.tuple #[]) ∧ Qu w' b q n c (Hp.sw a i j) ∧ Ch b (Two b q) w w' :=
  (swap_x q n c i j a w h.shp h.cs hi hj h.n64).mono fun e w' ⟨he, d, hw⟩ => ⟨he, by rw [hw]; exact (h.swap hi hj).drewN d, by rw [hw]; exact (((Ch.refl b _ w).set3 q i _ (.inr rfl) h.ne).set3 q j _ (.inr rfl) h.ne).drewN d⟩
theorem less_q {b q n c i j : Nat} {a : Nat → Cd} {w : World} (h : Qu w b q n c a) (hi : i < n) (hj : j < n) :
    Calls Tryd.prog 32 #[.slice (some ⟨q, 0, none⟩) n c, .int .i64 i, .int .i64 j] w fun e w' => e = .returned (.bool (decide ((a i).k < (a j).k))) ∧ Qu w' b q n c a ∧ Ch b (Two b q) w w' :=
  (less_x q n c i j a w h.shp h.cs hi hj h.n64).mono fun e w' ⟨he, d, hw⟩ => ⟨he, by rw [hw]; exact h.drewN d, by rw [hw]; exact (Ch.refl b _ w).drewN d⟩
end Hq
end Go.Proofs.YtbndgbjenmknmaaDoor
