/- What the law LatchExcludes keeps: a memory of one word, operations of eight threads, the two arrays of the law. Conditions: those of each lemma. -/
import Derived.Test.YtjocbmoelkobaaaLtA
import Derived.Test.YtjocbmoelkobaaaLtT
namespace Go.Proofs.Ytjocbmoelkobaaa
open Go.RowKit Go.Sort
set_option linter.unusedVariables false
set_option linter.unusedSimpArgs false
namespace Lt
open Wd
open Dm (addr_lit info_parts spot_none RdK flatU infoU bel_alloc bel_trans own_keep below_drewN)
/-- eight cells of the block b -/
def Ar (w : World) (b : Nat) (F : Nat → Value) : Prop := ∀ t, t < 8 → w.cell? ⟨b, t, none⟩ = some (F t) ∧ w.frozen? ⟨b, t, none⟩ = false
theorem Ar.keep {w w' : World} {b : Nat} {F : Nat → Value} (h : Ar w b F) (hb : w'.heap[b]? = w.heap[b]?) : Ar w' b F := fun t ht =>
  ⟨(World.cell?_of_block (a := ⟨b, t, none⟩) hb).trans (h t ht).1, (World.frozen?_of_block (a := ⟨b, t, none⟩) hb).trans (h t ht).2⟩
theorem Ar.lt {w : World} {b : Nat} {F : Nat → Value} (h : Ar w b F) : b < w.heap.size := World.block_lt_of_cell? w ⟨b, 0, none⟩ (h 0 (by omega)).1
theorem Ar.set {w : World} {b t : Nat} {F : Nat → Value} (h : Ar w b F) (ht : t < 8) (v : Value) : Ar (w.setCell ⟨b, t, none⟩ v) b (fun k => if k = t then v else F k) := fun k hk => by
  refine ⟨?_, frz (h k hk).2⟩
  by_cases e : k = t
  · subst e
    show _ = some (if k = k then v else F k)
    rw [if_pos rfl]
    exact World.cell?_setCell_same _ _ _ (h k hk).1
  · show _ = some (if k = t then v else F k)
    rw [if_neg e]
    exact (oth (by omega)).trans (h k hk).1
theorem Ar.congr {w : World} {b : Nat} {F G : Nat → Value} (h : Ar w b F) (e : ∀ t, t < 8 → F t = G t) : Ar w b G := fun t ht => by rw [← e t ht]; exact h t ht
theorem ar_new (w : World) (v : Value) (ty : TypeId) : Ar (w.alloc (.cells #[v, v, v, v, v, v, v, v] ty)) w.heap.size (fun _ => v) := fun t ht => by
  refine ⟨?_, World.frozen?_alloc_new _ _ _ _⟩
  rw [World.cell?_alloc_new]
  rcases t with _ | _ | _ | _ | _ | _ | _ | _ | t
  all_goals first | rfl | omega
/-- the memory and the operations, the array of operations at rb, the array of failures at fb; all from the world w0 on -/
structure Ea (w0 w : World) (c : Nat → Nat) (b rb fb : Nat) (M : Wm) (X : Nat → Option Lk) (N : Int) (R : Nat → Option Addr) (f : Nat → Int) : Prop where
  s : SL 1 w c b M X N
  r : Ar w rb (fun t => .pointer (R t))
  g : Ar w fb (fun t => .int .i64 (f t))
  cr : c rb = 5
  cf : c fb = 6
  lo : ∀ i, i < w0.heap.size → c i = 0
  be : Below w0.heap.size w0 w
section
variable {w0 w : World} {c : Nat → Nat} {b rb fb : Nat} {M : Wm} {X : Nat → Option Lk} {N : Int} {R : Nat → Option Addr} {f : Nat → Int}
theorem Ea.move {w1 : World} {c1 : Nat → Nat} {M1 : Wm} {X1 : Nat → Option Lk} {N1 : Int} (h : Ea w0 w c b rb fb M X N R f) (hs : SL 1 w1 c1 b M1 X1 N1) (hf : Fc (fun i => i = 1 ∨ i = 1 + 2) w c w1 c1) : Ea w0 w1 c1 b rb fb M1 X1 N1 R f :=
  ⟨hs, h.r.keep (hf.keep h.r.lt (by rw [h.cr]; omega)), h.g.keep (hf.keep h.g.lt (by rw [h.cf]; omega)), (hf.co _ h.r.lt).trans h.cr, (hf.co _ h.g.lt).trans h.cf, hf.low h.be.size h.lo, h.be.trans (hf.below h.be.size h.lo (by omega))⟩
theorem Ea.below {w1 : World} (h : Ea w0 w c b rb fb M X N R f) (hb : Below w.heap.size w w1) : Ea w0 w1 c b rb fb M X N R f :=
  h.move (h.s.below pkL hb) (Fc.of_below hb)
theorem Ea.rt (h : Ea w0 w c b rb fb M X N R f) {t : Nat} (ht : t < 8) {v : Option Addr} (e : R t = v) : w.cell? ⟨rb, t, none⟩ = some (.pointer v) := by rw [← e]; exact (h.r t ht).1
theorem Ea.rz (h : Ea w0 w c b rb fb M X N R f) {t : Nat} (ht : t < 8) : w.frozen? ⟨rb, t, none⟩ = false := (h.r t ht).2
theorem Ea.ft (h : Ea w0 w c b rb fb M X N R f) {t : Nat} (ht : t < 8) {v : Int} (e : f t = v) : w.cell? ⟨fb, t, none⟩ = some (.int .i64 v) := by rw [← e]; exact (h.g t ht).1
theorem Ea.fz (h : Ea w0 w c b rb fb M X N R f) {t : Nat} (ht : t < 8) : w.frozen? ⟨fb, t, none⟩ = false := (h.g t ht).2
theorem Ea.more (h : Ea w0 w c b rb fb M X N R f) {N' : Int} (hN : N ≤ N') : Ea w0 w c b rb fb M X N' R f := ⟨h.s.more hN, h.r, h.g, h.cr, h.cf, h.lo, h.be⟩
theorem Ea.setR (h : Ea w0 w c b rb fb M X N R f) {t : Nat} (ht : t < 8) (v : Option Addr) : Ea w0 (w.setCell ⟨rb, t, none⟩ (.pointer v)) c b rb fb M X N (fun k => if k = t then v else R k) f := by
  have hf : Fc (fun i => i = 5) w c (w.setCell ⟨rb, t, none⟩ (.pointer v)) c := ⟨(Fr.of_below (Below.refl _ w)).set _ _ h.cr, fun _ _ => rfl⟩
  refine ⟨h.s.keep pkL hf (by omega) (by omega), (h.r.set ht (.pointer v)).congr fun k _ => ?_, h.g.keep (hf.keep h.g.lt (by rw [h.cf]; omega)), h.cr, h.cf, h.lo, h.be.trans (hf.below h.be.size h.lo (by omega))⟩
  by_cases e : k = t
  · simp [e]
  · simp [e]
theorem Ea.setF (h : Ea w0 w c b rb fb M X N R f) {t : Nat} (ht : t < 8) (v : Int) : Ea w0 (w.setCell ⟨fb, t, none⟩ (.int .i64 v)) c b rb fb M X N R (fun k => if k = t then v else f k) := by
  have hf : Fc (fun i => i = 6) w c (w.setCell ⟨fb, t, none⟩ (.int .i64 v)) c := ⟨(Fr.of_below (Below.refl _ w)).set _ _ h.cf, fun _ _ => rfl⟩
  refine ⟨h.s.keep pkL hf (by omega) (by omega), h.r.keep (hf.keep h.r.lt (by rw [h.cr]; omega)), (h.g.set ht (.int .i64 v)).congr fun k _ => ?_, h.cr, h.cf, h.lo, h.be.trans (hf.below h.be.size h.lo (by omega))⟩
  by_cases e : k = t
  · simp [e]
  · simp [e]
end
/-- the two arrays are new -/
theorem ex_start {w0 w1 : World} {c : Nat → Nat} {b : Nat} {M : Wm} {X : Nat → Option Lk} (ty1 ty2 : TypeId) (h : SL 1 w1 c b M X 0) (lo : ∀ i, i < w0.heap.size → c i = 0) (be : Below w0.heap.size w0 w1) :
    ∃ c', Ea w0 ((w1.alloc (.cells #[.pointer none, .pointer none, .pointer none, .pointer none, .pointer none, .pointer none, .pointer none, .pointer none] ty1)).alloc (.cells #[.int .i64 0, .int .i64 0, .int .i64 0, .int .i64 0, .int .i64 0, .int .i64 0, .int .i64 0, .int .i64 0] ty2)) c' b w1.heap.size (w1.heap.size + 1) M X 0 (fun _ => none) (fun _ => 0) := by
  obtain ⟨o1, e1⟩ : ∃ o : Obj, o = .cells #[.pointer none, .pointer none, .pointer none, .pointer none, .pointer none, .pointer none, .pointer none, .pointer none] ty1 := ⟨_, rfl⟩
  obtain ⟨o2, e2⟩ : ∃ o : Obj, o = .cells #[.int .i64 0, .int .i64 0, .int .i64 0, .int .i64 0, .int .i64 0, .int .i64 0, .int .i64 0, .int .i64 0] ty2 := ⟨_, rfl⟩
  rw [← e1, ← e2]
  have b1 : Below w1.heap.size w1 (w1.alloc o1) := bel_alloc (Below.refl _ _) _
  have b2 : Below (w1.alloc o1).heap.size (w1.alloc o1) ((w1.alloc o1).alloc o2) := bel_alloc (Below.refl _ _) _
  have z1 : (w1.alloc o1).heap.size = w1.heap.size + 1 := by simp
  have f1 : Fc (fun _ => False) w1 c (w1.alloc o1) (up c w1.heap.size 5) := Fc.of_below_up b1
  have f2 : Fc (fun _ => False) (w1.alloc o1) (up c w1.heap.size 5) ((w1.alloc o1).alloc o2) (up (up c w1.heap.size 5) (w1.heap.size + 1) 6) := by
    have := Fc.of_below_up (S := fun _ => False) (c := up c w1.heap.size 5) (k := 6) b2
    rw [z1] at this
    exact this
  have ff := f1.trans f2
  have a1 : Ar (w1.alloc o1) w1.heap.size (fun _ => .pointer none) := by rw [e1]; exact ar_new w1 (.pointer none) ty1
  have a2 : Ar ((w1.alloc o1).alloc o2) (w1.heap.size + 1) (fun _ => .int .i64 0) := by
    have := ar_new (w1.alloc o1) (.int .i64 0) ty2
    rw [z1, ← e2] at this
    exact this
  exact ⟨_, ⟨h.keep pkL ff id id, a1.keep (b2.block _ (by omega)), a2, (up_lt (by omega)).trans (up_ge (Nat.le_refl _)), up_ge (Nat.le_refl _), ff.low be.size lo, be.trans (ff.below be.size lo id)⟩⟩
/-- i modulo n, not negative -/
theorem index_any (i n : Int) (w : World) (h0 : 0 < n) (h1 : n ≤ 65536) :
    Calls Try.prog 13 #[.int .i64 i, .int .i64 n] w fun e w' => e = .returned (.int .i64 (i % n)) ∧ w' = w := by
  obtain ⟨m, rfl⟩ := Int.eq_ofNat_of_zero_le (Int.le_of_lt h0)
  have hm := mod_val i m (by omega) (by omega)
  have h2 : ((m : Int) == 0) = false := by simp; omega
  go_enter Try.func13, Try.ntmps13
  go_wp2
  go_ret
  exact ⟨rfl, rfl⟩
/-- what the arrays say: R t is the operation of the thread t that is under way, with f t failures; H has the latch -/
structure Iv (lim : Int) (j : Nat) (H : Int) (M : Wm) (X : Nat → Option Lk) (R : Nat → Option Addr) (f : Nat → Int) : Prop where
  x : ∀ t, t < 8 → R t = none ∨ ∃ x, R t = some ⟨x, 0, none⟩ ∧ X x = some ⟨t, 0, lim, f t, false, 0⟩
  f0 : ∀ t, t < 8 → 0 ≤ f t ∧ f t ≤ j
  mw : M.W.length = 1
  mg : M.get 0 = H + 1
  ml : M.L.length ≤ 3 * j
  h0 : -1 ≤ H
  h1 : H < 8
theorem cas_get {M : Wm} (h : M.W.length = 1) (t v : Int) (hg : M.get 0 = 0) : (M.cas t 0 0 v).get 0 = v := by
  unfold Wm.cas
  rw [if_pos hg]
  unfold Wm.put Wm.get
  match M.W, h with
  | [x], _ => rfl
theorem cas_get_no {M : Wm} (t v : Int) (hg : ¬ M.get 0 = 0) : (M.cas t 0 0 v).get 0 = M.get 0 := by
  unfold Wm.cas
  rw [if_neg hg]
  show (M.W.set (0 : Int).toNat (M.get 0)).getD (0 : Int).toNat 0 = _
  rw [Wm.set_get]; rfl
theorem stor_get {M : Wm} (h : M.W.length = 1) (t v : Int) : (M.stor t 0 v).get 0 = v := by
  unfold Wm.stor Wm.put Wm.get
  match M.W, h with
  | [x], _ => rfl
section
variable {lim : Int} {j : Nat} {H : Int} {M : Wm} {X : Nat → Option Lk} {R : Nat → Option Addr} {f : Nat → Int}
/-- the latch is given back -/
theorem Iv.free (h : Iv lim j H M X R f) (t : Int) : Iv lim (j + 1) (-1) (M.stor t 0 0) X R f :=
  ⟨h.x, fun t ht => by have := h.f0 t ht; omega, (Wm.len_put ..).trans h.mw, stor_get h.mw _ _, by have := h.ml; simp [Wm.stor, Wm.put]; omega, by omega, by omega⟩
/-- an operation begins -/
theorem Iv.new (h : Iv lim j H M X R f) {t x : Nat} (ht : t < 8) (hx : X x = none) : Iv lim j H M (upd X x (Lk.new t 0 lim)) (fun k => if k = t then some ⟨x, 0, none⟩ else R k) (fun k => if k = t then 0 else f k) := by
  refine ⟨fun k hk => ?_, fun k hk => ?_, h.mw, h.mg, h.ml, h.h0, h.h1⟩
  · by_cases e : k = t
    · subst e
      simp only [if_true]
      exact .inr ⟨x, rfl, upd_same ..⟩
    · simp only [if_neg e]
      rcases h.x k hk with h1 | ⟨y, h1, h2⟩
      · exact .inl h1
      · exact .inr ⟨y, h1, (upd_other fun e2 => by rw [e2, hx] at h2; cases h2).trans h2⟩
  · by_cases e : k = t
    · simp only [if_pos e]; omega
    · simp only [if_neg e]; exact h.f0 k hk
/-- what the operation of t is -/
theorem Iv.at (h : Iv lim j H M X R f) {t x : Nat} (ht : t < 8) (hx : R t = some ⟨x, 0, none⟩) : X x = some ⟨t, 0, lim, f t, false, 0⟩ := by
  rcases h.x t ht with h1 | ⟨y, h1, h2⟩
  · rw [hx] at h1; cases h1
  · rw [hx] at h1; cases h1; exact h2
theorem Iv.apart (h : Iv lim j H M X R f) {t k x y : Nat} (ht : t < 8) (hk : k < 8) (hx : R t = some ⟨x, 0, none⟩) (hy : R k = some ⟨y, 0, none⟩) (e : k ≠ t) : y ≠ x := fun e2 => by
  have h1 := h.at ht hx
  have h2 := h.at hk hy
  rw [e2, h1] at h2
  have h3 := congrArg (fun o => o.map Lk.t) h2
  simp at h3
  omega
/-- the latch is locked by t -/
theorem Iv.hit (h : Iv lim j H M X R f) {t x : Nat} (ht : t < 8) (hx : R t = some ⟨x, 0, none⟩) (hg : M.get 0 = 0) (L : Lk) : Iv lim (j + 1) t (M.cas t 0 0 (t + 1)) (upd X x L) (fun k => if k = t then none else R k) f := by
  refine ⟨fun k hk => ?_, fun t ht => by have := h.f0 t ht; omega, (cas_len ..).trans h.mw, cas_get h.mw _ _ hg, by rw [cas_log]; have := h.ml; omega, by omega, by omega⟩
  by_cases e : k = t
  · exact .inl (if_pos e)
  · simp only [if_neg e]
    rcases h.x k hk with h1 | ⟨y, h1, h2⟩
    · exact .inl h1
    · exact .inr ⟨y, h1, (upd_other (h.apart ht hk hx h1 e)).trans h2⟩
/-- a failure that ends the operation -/
theorem Iv.over (h : Iv lim j H M X R f) {t x : Nat} (ht : t < 8) (hx : R t = some ⟨x, 0, none⟩) (hg : ¬ M.get 0 = 0) (L : Lk) : Iv lim (j + 1) H (M.cas t 0 0 (t + 1)) (upd X x L) (fun k => if k = t then none else R k) (fun k => if k = t then f t + 1 else f k) := by
  refine ⟨fun k hk => ?_, fun k hk => ?_, (cas_len ..).trans h.mw, (cas_get_no _ _ hg).trans h.mg, by rw [cas_log]; have := h.ml; omega, h.h0, h.h1⟩
  · by_cases e : k = t
    · exact .inl (if_pos e)
    · simp only [if_neg e]
      rcases h.x k hk with h1 | ⟨y, h1, h2⟩
      · exact .inl h1
      · exact .inr ⟨y, h1, (upd_other (h.apart ht hk hx h1 e)).trans h2⟩
  · have h1 := h.f0 t ht
    have h2 := h.f0 k hk
    by_cases e : k = t
    · simp only [if_pos e]; omega
    · simp only [if_neg e]; omega
/-- a failure that does not -/
theorem Iv.miss (h : Iv lim j H M X R f) {t x : Nat} (ht : t < 8) (hx : R t = some ⟨x, 0, none⟩) (hg : ¬ M.get 0 = 0) : Iv lim (j + 1) H (M.cas t 0 0 (t + 1)) (upd X x ⟨t, 0, lim, f t + 1, false, 0⟩) R (fun k => if k = t then f t + 1 else f k) := by
  refine ⟨fun k hk => ?_, fun k hk => ?_, (cas_len ..).trans h.mw, (cas_get_no _ _ hg).trans h.mg, by rw [cas_log]; have := h.ml; omega, h.h0, h.h1⟩
  · by_cases e : k = t
    · subst e
      simp only [if_true]
      exact .inr ⟨x, hx, upd_same ..⟩
    · simp only [if_neg e]
      rcases h.x k hk with h1 | ⟨y, h1, h2⟩
      · exact .inl h1
      · exact .inr ⟨y, h1, (upd_other (h.apart ht hk hx h1 e)).trans h2⟩
  · have h1 := h.f0 t ht
    have h2 := h.f0 k hk
    by_cases e : k = t
    · simp only [if_pos e]; omega
    · simp only [if_neg e]; omega
theorem Iv.err (h : Iv lim j H M X R f) {t : Nat} (ht : t < 8) : M.err t 0 = 0 := Wm.err_ok (by omega) (by omega) (by omega) (by rw [h.mw]; decide)
theorem Iv.un_ok (h : Iv lim j H M X R f) {t : Nat} (ht : t < 8) (e : H = t) : unE M t 0 = 0 ∧ unM M t 0 = M.stor t 0 0 := by
  have h1 : unE M t 0 = 0 := by unfold unE; rw [if_pos (h.err ht), if_pos (by rw [h.mg, e])]
  exact ⟨h1, if_pos h1⟩
theorem Iv.un_no (h : Iv lim j H M X R f) {t : Nat} (ht : t < 8) (e : ¬ H = t) : unE M t 0 = 8 ∧ unM M t 0 = M := by
  have h1 : unE M t 0 = 8 := by unfold unE; rw [if_pos (h.err ht), if_neg (by rw [h.mg]; omega)]
  exact ⟨h1, if_neg (by rw [h1]; decide)⟩
theorem Iv.lk (h : Iv lim j H M X R f) {t : Nat} (ht : t < 8) (l0 : 0 ≤ lim) (l1 : lim ≤ 255) : lkE M t 0 lim = 0 := by
  unfold lkE
  rw [if_pos ⟨⟨by omega, by omega⟩, l0, l1⟩, if_pos ⟨by omega, by rw [h.mw]; decide⟩]
theorem Iv.peek (h : Iv lim j H M X R f) : peekT M 0 = .tuple #[.int .u64 (H + 1), .bool true] := by
  unfold peekT
  rw [if_pos ⟨by omega, by rw [h.mw]; decide⟩, decide_eq_true (show (0 : Int) ≤ 0 ∧ (0 : Int) < M.W.length from ⟨by omega, by rw [h.mw]; decide⟩), h.mg]
end
end Lt
end Go.Proofs.Ytjocbmoelkobaaa
