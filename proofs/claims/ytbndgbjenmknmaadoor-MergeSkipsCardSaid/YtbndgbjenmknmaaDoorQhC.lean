/- A row of candidates that may grow; the queue's Push, Pop and least; heap.Push and heap.Pop: contracts of the translated code. Conditions: those of XQhA. -/
import Derived.Test.YtbndgbjenmknmaaDoorQhB
import Derived.Deep.RegionLaw
namespace Go.Proofs.YtbndgbjenmknmaaDoor
open Go.RowKit Go.Sort
set_option linter.unusedVariables false
set_option linter.unusedSimpArgs false
namespace Hq
open Om (bel_alloc below_drewN)
def rowL (a : Nat → Cd) : Nat → List Value
  | 0 => []
  | n + 1 => rowL a n ++ enc (a n)
theorem rowL_len (a : Nat → Cd) : ∀ n, (rowL a n).length = n * 3
  | 0 => rfl
  | n + 1 => by rw [rowL, List.length_append, rowL_len a n]; simp [enc]; omega
theorem rowL_get (a : Nat → Cd) : ∀ (n k r : Nat), k < n → r < 3 → (rowL a n)[k * 3 + r]? = (enc (a k))[r]?
  | 0, k, r, h, _ => absurd h (Nat.not_lt_zero _)
  | n + 1, k, r, h, hr => by
    rw [rowL]
    by_cases e : k = n
    · subst e
      rw [List.getElem?_append_right (by rw [rowL_len]; omega), rowL_len]
      congr 1; omega
    · rw [List.getElem?_append_left (by rw [rowL_len]; omega)]
      exact rowL_get a n k r (by omega) hr
theorem rowL_congr {a a' : Nat → Cd} : ∀ {n : Nat}, (∀ k, k < n → a k = a' k) → rowL a n = rowL a' n
  | 0, _ => rfl
  | n + 1, h => by rw [rowL, rowL, rowL_congr fun k hk => h k (by omega), h n (by omega)]
theorem rowL_one (a : Nat → Cd) : ∀ n u, u ∈ rowL a n → u.oneCell' = true
  | 0, u, h => by cases h
  | n + 1, u, h => by
    rw [rowL, List.mem_append] at h
    rcases h with h | h
    · exact rowL_one a n u h
    · simp [enc] at h; rcases h with rfl | rfl | rfl <;> rfl
theorem own_shp {w : World} {B q n c : Nat} {a : Nat → Cd} (h : w.ownsRow B 73 3 (.slice (some ⟨q, 0, none⟩) n c) n (rowL a n)) : Shp w q c ∧ Cs w q n a ∧ n ≤ c := by
  rcases h.2 with ⟨e, _⟩ | ⟨g, cap, cur, e, _, hh, hnc, hm, hs, ht⟩
  · cases e
  · cases e
    refine ⟨⟨hm, cur, hh, hs⟩, fun k hk => ?_, hnc⟩
    have key : ∀ r, r < 3 → w.cell? ⟨q, k * 3 + r, none⟩ = (enc (a k))[r]? := fun r hr => by
      rw [h.cellAt _ (by omega)]; exact rowL_get a n k r hk hr
    exact ⟨key 0 (by omega), key 1 (by omega), key 2 (by omega)⟩
theorem shp_own {w : World} {q n c : Nat} {a : Nat → Cd} (h : Shp w q c) (hc : Cs w q n a) (hn : n ≤ c) : w.ownsRow 0 73 3 (.slice (some ⟨q, 0, none⟩) n c) n (rowL a n) := by
  obtain ⟨hm, cur, hh, hs⟩ := h
  refine ⟨rowL_len a n, .inr ⟨q, c, cur, rfl, Nat.zero_le _, hh, hn, hm, hs, ?_⟩⟩
  refine List.ext_getElem? fun j => ?_
  by_cases hj : j < n * 3
  · rw [List.getElem?_take, if_pos hj]
    obtain ⟨c0, c1, c2⟩ := hc (j / 3) (by omega)
    have key : ∀ r, r < 3 → w.cell? ⟨q, j / 3 * 3 + r, none⟩ = (enc (a (j / 3)))[r]? := fun r hr => by
      rcases (by omega : r = 0 ∨ r = 1 ∨ r = 2) with rfl | rfl | rfl
      · exact c0
      · exact c1
      · exact c2
    have e : j / 3 * 3 + j % 3 = j := by omega
    have h1 := key (j % 3) (by omega)
    have h2 := rowL_get a n (j / 3) (j % 3) (by omega) (by omega)
    rw [e] at h1 h2
    rw [h2, ← h1, cell_of_row w q _ cur _ _ hh, Array.getElem?_toList]
  · rw [List.getElem?_eq_none (by rw [List.length_take]; omega), List.getElem?_eq_none (by rw [rowL_len]; omega)]
/-- the queue at the block b, nil or not -/
structure Q0 (w : World) (b n : Nat) (v : Value) (a : Nat → Cd) : Prop where
  hd : w.cell? ⟨b, 2, none⟩ = some v
  fz : w.frozen? ⟨b, 2, none⟩ = false
  row : w.ownsRow 0 73 3 v n (rowL a n)
  ne : v.ownBlock ≠ some b
  n64 : n ≤ 64
theorem Q0.form {w : World} {b n : Nat} {v : Value} {a : Nat → Cd} (h : Q0 w b n v a) : (v = .slice none 0 0 ∧ n = 0) ∨ ∃ q c, v = .slice (some ⟨q, 0, none⟩) n c ∧ Qu w b q n c a := by
  rcases h.row.2 with h1 | ⟨g, cap, cur, e, _⟩
  · exact .inl h1
  · subst e
    obtain ⟨h1, h2, h3⟩ := own_shp h.row
    exact .inr ⟨g, cap, rfl, h.hd, h.fz, h1, h2, h3, fun e => h.ne (by rw [e]; rfl), h.n64⟩
theorem Qu.q0 {w : World} {b q n c : Nat} {a : Nat → Cd} (h : Qu w b q n c a) : Q0 w b n (.slice (some ⟨q, 0, none⟩) n c) a :=
  ⟨h.hd, h.fz, shp_own h.shp h.cs h.nc, fun e => h.ne (by injection e), h.n64⟩
theorem Q0.keep {w w' : World} {b n : Nat} {v : Value} {a : Nat → Cd} (h : Q0 w b n v a) (h1 : w'.heap[b]? = w.heap[b]?) (h2 : ∀ q, v.ownBlock = some q → w'.heap[q]? = w.heap[q]?) : Q0 w' b n v a := by
  refine ⟨(World.cell?_of_block (a := ⟨b, 2, none⟩) h1).trans h.hd, (World.frozen?_of_block (a := ⟨b, 2, none⟩) h1).trans h.fz, ?_, h.ne, h.n64⟩
  rcases h.form with ⟨rfl, rfl⟩ | ⟨q, c, rfl, hq⟩
  · exact World.ownsRow_nil _ _ _ _
  · exact shp_own (hq.shp.keep (h2 q rfl)) (hq.cs.keep (h2 q rfl)) hq.nc
theorem info : (Tryd.prog.info? 73).map (fun i => (i.zero, i.size, i.bytes)) = some (some (.agg #[.int .u64 0, .int .u64 0, .int .i64 0]), 3, 24) := by kernel_rfl
def Own (b : Nat) (v : Value) : Nat → Prop := fun k => k = b ∨ v.ownBlock = some k
def PuP (b n : Nat) (v : Value) (a : Nat → Cd) (x : Cd) (w w' : World) : Prop := ∃ q c, Qu w' b q (n + 1) c (fun k => if k = n then x else a k) ∧ (v.ownBlock = some q ∨ w.heap.size ≤ q) ∧ Ch b (Own b v) w w'
theorem stepC {ops : Array Oper} {o : Oper} {a : Act} {K : Act → World → Prop} {Q : Exit → Act → World → Prop} {E : Prop} (hgd : o.guard = none) (s x : Operand)
    (ho : o.op = .call { callee := .builtin .append, args := #[s, x], argTypes := #[63, 63] }) (W : World) (n H : Nat) (v : Value) (f : Nat → Cd) (y : Cd)
    (hs : a.eval s = v) (hx : a.eval x = .slice (some ⟨H, 0, none⟩) 1 1) (hb : W.heap[H]? = some (.cells #[.int .u64 y.k, .int .u64 y.v, .int .i64 y.l] 73 (0, 0))) (hown : W.ownsRow 0 73 3 v n (rowL f n)) (hn : n ≤ 64)
    (h : ∀ g cap w', w'.ownsRow 0 73 3 (.slice (some ⟨g, 0, none⟩) (n + 1) cap) (n + 1) (rowL (fun k => if k = n then y else f k) (n + 1)) → W.grownBy w' v.ownBlock → (v.ownBlock = some g ∨ g = W.heap.size) → K (a.put o.dst (.slice (some ⟨g, 0, none⟩) (n + 1) cap)) w') :
    if Region.wanted o (yielded ops a.tmps) = true then Oper.wp Tryd.prog o a W K Q else E := by
  obtain ⟨i0, hi, hz0, hz1, hz2⟩ := info_parts info
  refine step_append_lies _ hgd s x 63 ho 0 73 i0 _ 3 24 Tryd.underlying63 hi hz0 hz1 hz2 rfl (by omega) v n (rowL f n) hs hown ⟨H, 0, none⟩ 1 1 (enc y) hx rfl
    (World.news_of_block hb) ?_ (by omega) (by unfold maxLen; omega) (by omega) (by omega) _ rfl ?_
  · intro u hu
    simp [enc] at hu
    rcases hu with rfl | rfl | rfl <;> rfl
  · intro g cap w' h1 h2 h3 _
    refine h g cap w' ?_ h2 h3
    rw [rowL]
    simp only [if_true]
    rw [rowL_congr (a' := f) (fun k hk => if_neg (by omega))]
    exact h1
/-- the head is written -/
theorem Qu.head {w : World} {b q n c : Nat} {a : Nat → Cd} {u : Value} (h1 : w.cell? ⟨b, 2, none⟩ = some u) (h2 : w.frozen? ⟨b, 2, none⟩ = false) (h3 : Shp w q c) (h4 : Cs w q n a) (h5 : n ≤ c) (h6 : q ≠ b) (h7 : n ≤ 64) :
    Qu (w.setCell ⟨b, 2, none⟩ (.slice (some ⟨q, 0, none⟩) n c)) b q n c a :=
  ⟨World.cell?_setCell_same _ _ _ h1, by rw [World.frozen?_setCell]; exact h2, h3.set _ _, h4.keep (Below.heap_setCell w ⟨b, 2, none⟩ _ q h6), h5, h6, h7⟩
theorem push_end {b n g cap : Nat} {v u : Value} {a : Nat → Cd} {x : Cd} {w W w1 : World} (HB : Below w.heap.size w W) (HS : W.heap.size = w.heap.size + 2) (HR : Q0 W b n v a)
    (own1 : w1.ownsRow 0 73 3 (.slice (some ⟨g, 0, none⟩) (n + 1) cap) (n + 1) (rowL (fun k => if k = n then x else a k) (n + 1))) (grow1 : W.grownBy w1 v.ownBlock) (at1 : v.ownBlock = some g ∨ g = W.heap.size)
    (k1 : w1.cell? ⟨b, 2, none⟩ = some u) (k2 : w1.frozen? ⟨b, 2, none⟩ = false) (hn : n < 64) : PuP b n v a x w (w1.setCell ⟨b, 2, none⟩ (.slice (some ⟨g, 0, none⟩) (n + 1) cap)) := by
  rw [HS] at at1
  obtain ⟨s1, s2, s3⟩ := own_shp own1
  have hb := World.block_lt_of_cell? W ⟨b, 2, none⟩ HR.hd
  have gb : g ≠ b := fun e => by
    rcases at1 with h | h
    · exact HR.ne (by rw [h, e])
    · rw [HS] at hb; rw [← e] at hb; simp at hb; omega
  have ch1 : Ch b (Own b v) w w1 := (Ch.of_below (B := Own b v) HB).trans (B' := fun k => v.ownBlock = some k) (Ch.of_fr ⟨grow1.os, grow1.tape, grow1.output, grow1.size, fun k hk hn => grow1.block k hk fun e => hn e.symm⟩ HR.ne) fun _ _ h => .inr h
  exact ⟨g, cap, Qu.head k1 k2 s1 s2 s3 gb (by omega), at1.imp id fun h => by omega, ch1.set _ _ (.inl ⟨.inl rfl, fun _ => rfl⟩)⟩
set_option maxRecDepth 100000 in
set_option maxHeartbeats 1000000 in
theorem push_any (b n : Nat) (v : Value) (a : Nat → Cd) (x : Cd) (w : World) (h : Q0 w b n v a) (hn : n < 64) :
    Calls Tryd.prog 102 #[.pointer (some ⟨b, 2, none⟩), .iface 73 (agg x)] w fun e w' => e = .returned (.tuple #[]) ∧ PuP b n v a x w w' := by
  have HH := Lib.hid h
  have hd := h.hd
  have fz := h.fz
  have hbl := World.block_lt_of_cell? w ⟨b, 2, none⟩ hd
  clear h
  unfold agg
  have hta : ∀ W, (Instr.typeAssert (.iface 73 (.agg #[.int .u64 x.k, .int .u64 x.v, .int .i64 x.l])) 20 73 true).run Tryd.prog W = .ok (.tuple #[.agg #[.int .u64 x.k, .int .u64 x.v, .int .i64 x.l], .bool true]) W := fun _ => by kernel_rfl
  obtain ⟨o, ho⟩ : ∃ o : Obj, o = .cells #[.int .u64 x.k, .int .u64 x.v, .int .i64 x.l] 73 := ⟨_, rfl⟩
  have BB : Below w.heap.size w ((w.alloc o).alloc o).drew := below_drewN (bel_alloc (bel_alloc (Below.refl _ _) _) _) 1
  have HW : Q0 ((w.alloc o).alloc o).drew b n v a := HH.out.keep (BB.block b hbl) fun q hq => BB.block q (HH.out.row.lt q hq).2
  have NB : ((w.alloc o).alloc o).drew.heap[w.heap.size + 1]? = some o := by
    have := heap_alloc_new (w.alloc o) o
    rw [World.size_alloc] at this; exact this
  have SZ : ((w.alloc o).alloc o).drew.heap.size = w.heap.size + 2 := by show ((w.alloc o).alloc o).heap.size = _; simp
  rw [ho] at BB HW NB SZ
  have HB := Lib.hid BB
  have HR := Lib.hid HW
  have HN := Lib.hid NB
  have HS := Lib.hid SZ
  clear BB HW NB SZ ho
  go_enter Tryd.func102, Tryd.ntmps102
  go_wp2
  go_region_law ((refine stepC (by rfl) (.tmp 15) (.tmp 17) (by rfl) _ n _ v a x (by rfl) (by rfl) HN.out HR.out.row (by omega) ?_; intro g cap w1 own1 grow1 at1; have kb := grow1.block b (by rw [HS.out]; omega) (fun e => HR.out.ne e.symm); have k1 := (World.cell?_of_block (a := ⟨b, 2, none⟩) kb).trans HR.out.hd; have k2 := (World.frozen?_of_block (a := ⟨b, 2, none⟩) kb).trans HR.out.fz))
  all_goals
    go_wp2
    go_end0
    exact ⟨rfl, push_end HB.out HS.out HR.out own1 grow1 at1 k1 k2 (by omega)⟩
end Hq
end Go.Proofs.YtbndgbjenmknmaaDoor
