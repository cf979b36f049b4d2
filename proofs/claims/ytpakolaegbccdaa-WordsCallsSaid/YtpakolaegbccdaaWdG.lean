/- A list of deeds in memory; run of leapfroglaw08: contract of the translated code, and what a run makes. Conditions: the bounds of each number's kind; at most 300 words and 200 deeds. -/
import Derived.Test.YtpakolaegbccdaaWdX
namespace Go.Proofs.Ytpakolaegbccdaa
open Go.RowKit Go.Sort Go.ChangeShapes Go.WideShapes Go.Deep
set_option linter.unusedVariables false
set_option linter.unusedSimpArgs false
namespace Wd
open Dm (addr_lit info_parts spot_none RdK flatU infoU bel_alloc bel_trans own_keep below_drewN)
/-- the cells of a deed at ⟨b, o⟩ -/
structure D5 (w : World) (b o : Nat) (x : Dd) : Prop where
  c0 : w.cell? ⟨b, o, none⟩ = some (.int .u8 x.d)
  c1 : w.cell? ⟨b, o + 1, none⟩ = some (.int .i64 x.t)
  c2 : w.cell? ⟨b, o + 2, none⟩ = some (.int .i64 x.a)
  c3 : w.cell? ⟨b, o + 3, none⟩ = some (.int .u64 x.o)
  c4 : w.cell? ⟨b, o + 4, none⟩ = some (.int .u64 x.v)
theorem D5.keep {w w' : World} {b o : Nat} {x : Dd} (h : D5 w b o x) (hb : w'.heap[b]? = w.heap[b]?) : D5 w' b o x := by
  have k : ∀ j, w'.cell? ⟨b, j, none⟩ = w.cell? ⟨b, j, none⟩ := fun j => World.cell?_of_block (a := ⟨b, j, none⟩) hb
  exact ⟨(k _).trans h.c0, (k _).trans h.c1, (k _).trans h.c2, (k _).trans h.c3, (k _).trans h.c4⟩
/-- from the address A on lie the deeds l -/
def RdD (w : World) (A : Option Addr) (l : List Dd) : Prop := ∀ (i : Nat) (x : Dd), l[i]? = some x → ∃ b o, A = some ⟨b, o, none⟩ ∧ D5 w b (o + i * 5) x
theorem RdD.below {w w' : World} {A : Option Addr} {l : List Dd} (h : RdD w A l) (hb : Below w.heap.size w w') : RdD w' A l := by
  intro i x hi
  obtain ⟨b, o, e, c⟩ := h i x hi
  exact ⟨b, o, e, c.keep (hb.block b (World.block_lt_of_cell? w _ c.c0))⟩
theorem dd_get {L : List Dd} {j : Nat} (h : j < L.length) : ∃ x, L[j]? = some x ∧ x ∈ L := ⟨_, List.getElem?_eq_getElem h, List.getElem_mem h⟩
/-! ### what a run makes -/
def nrm (n : Nat) (x : Dd) : Dd := ⟨x.d, x.t % 64, x.a % (n : Int), x.o, x.v⟩
def step (n : Nat) (M : Wm) (x : Dd) : Wm := M.deed (nrm n x)
def runM (W : List Int) (l : List Dd) : Wm := l.foldl (step W.length) ⟨W, []⟩
theorem run_snoc (W : List Int) (l : List Dd) (x : Dd) : runM W (l ++ [x]) = step W.length (runM W l) x := by simp [runM]
theorem take_dd {L : List Dd} {j : Nat} {x : Dd} (h : L[j]? = some x) : L.take (j + 1) = L.take j ++ [x] := by rw [List.take_add_one, h]; rfl
/-- a memory that accesses led to -/
structure Gd (W : List Int) (M : Wm) : Prop where
  w : M.W = lead W M.L
  g : Good W M.L
theorem Gd.len {W : List Int} {M : Wm} (h : Gd W M) : M.W.length = W.length := by rw [h.w, lead_len]
theorem Gd.put {W : List Int} {M : Wm} {t a k n : Int} {s : Bool} (h : Gd W M) (hx : ok M.W ⟨t, a, k, M.get a, n, s⟩) : Gd W (M.put t a k n s) := by
  refine ⟨?_, h.g.snoc (by rw [← h.w]; exact hx)⟩
  show M.W.set a.toNat n = lead W (M.L ++ [⟨t, a, k, M.get a, n, s⟩])
  rw [lead_snoc, ← h.w]
theorem Gd.step {W : List Int} {M : Wm} (h : Gd W M) (h0 : 0 < W.length) (x : Dd) : Gd W (step W.length M x) ∧ (step W.length M x).L.length ≤ M.L.length + 1 := by
  have ht : 0 ≤ x.t % 64 ∧ x.t % 64 < 64 := by omega
  have ha : 0 ≤ x.a % (W.length : Int) ∧ x.a % (W.length : Int) < M.W.length := by
    rw [h.len]
    exact ⟨Int.emod_nonneg _ (by omega), Int.emod_lt_of_pos _ (by omega)⟩
  unfold Wd.step Wm.deed nrm
  simp only
  by_cases c0 : x.d % 5 = 0
  · rw [if_pos c0]
    exact ⟨h.put ⟨ht, ha, rfl, .inl ⟨rfl, rfl, rfl⟩⟩, by simp [Wm.load, Wm.put]⟩
  rw [if_neg c0]
  by_cases c1 : x.d % 5 = 1
  · rw [if_pos c1]
    exact ⟨h.put ⟨ht, ha, rfl, .inr (.inl ⟨.inl rfl, rfl⟩)⟩, by simp [Wm.stor, Wm.put]⟩
  rw [if_neg c1]
  by_cases c2 : x.d % 5 = 2
  · rw [if_pos c2]
    exact ⟨h.put ⟨ht, ha, rfl, .inr (.inl ⟨.inr rfl, rfl⟩)⟩, by simp [Wm.addw, Wm.put]⟩
  rw [if_neg c2]
  by_cases c3 : x.d % 5 = 3
  · rw [if_pos c3]
    unfold Wm.cas
    split
    · exact ⟨h.put ⟨ht, ha, rfl, .inr (.inr ⟨rfl, .inl rfl⟩)⟩, by simp [Wm.put]⟩
    · exact ⟨h.put ⟨ht, ha, rfl, .inr (.inr ⟨rfl, .inr rfl⟩)⟩, by simp [Wm.put]⟩
  · rw [if_neg c3]; exact ⟨h, Nat.le_succ _⟩
theorem run_good (W : List Int) (h0 : 0 < W.length) : ∀ l : List Dd, Gd W (runM W l) ∧ (runM W l).L.length ≤ l.length := fun l => by
  have key : ∀ (l : List Dd) (M : Wm), Gd W M → Gd W (l.foldl (step W.length) M) ∧ (l.foldl (step W.length) M).L.length ≤ M.L.length + l.length := by
    intro l
    induction l with
    | nil => intro M h; exact ⟨h, Nat.le_refl _⟩
    | cons x l ih =>
      intro M h
      obtain ⟨h1, h2⟩ := h.step h0 x
      obtain ⟨h3, h4⟩ := ih _ h1
      exact ⟨h3, by simp only [List.foldl_cons, List.length_cons]; omega⟩
  have := key l ⟨W, []⟩ ⟨rfl, fun i x hx => by simp at hx⟩
  exact ⟨this.1, by have h := this.2; simp only [List.length_nil, Nat.zero_add] at h; exact h⟩
/-! ### run -/
/-- what run hands out -/
def RnP (M : Wm) (w : World) (e : Ending) (w' : World) : Prop := ∃ b p q, e = .returned (.pointer (some ⟨b, 0, none⟩)) ∧ At 75 w' b p q M ∧ (∀ i, Of b p q i → w.heap.size ≤ i) ∧ Below w.heap.size w w'
theorem newE_ok {n : Nat} (h0 : 0 < n) (h1 : n ≤ 300) : newE n = 0 := by unfold newE; rw [if_neg (by omega), if_neg (by omega)]
set_option maxRecDepth 100000 in
set_option maxHeartbeats 4000000 in
theorem run_any (A : Option Addr) (n c : Nat) (W : List Int) (A2 : Option Addr) (n2 c2 : Nat) (ds : List Dd) (w : World) (hl : W.length = n) (h0 : 0 < n) (h1 : n ≤ 300) (hr : RdK .u64 w A W) (hz : A = none → c = 0) (hd : BdW W) (hl2 : ds.length = n2) (h2 : n2 ≤ 200) (hr2 : RdD w A2 ds) (hd2 : BdD ds) :
    Calls Try.prog 28 #[.slice A n c, .slice A2 n2 c2] w (RnP (runM W ds) w) := by
  subst hl hl2
  have made : (w.alloc (.cells #[] 31)).ownsRow w.heap.size 31 1 (.slice (some ⟨w.heap.size, 0, none⟩) 0 0) 0 (flatU []) := World.ownsRow_made w #[] 0 (Nat.le_refl _) (Nat.zero_le _) (by simp)
  have B0 : Below w.heap.size w (w.alloc (.cells #[] 31)) := bel_alloc (Below.refl _ _) _
  have HR := Lib.hid hr
  have HR2 := Lib.hid hr2
  have HD := Lib.hid hd
  have HD2 := Lib.hid hd2
  clear hr hr2 hd hd2
  go_enter Try.func28, Try.ntmps28
  go_wp2_with (at_builtin; refine Dm.appAll rfl (.tmp 12) (.tmp 13) rfl _ w.heap.size 0 _ [] A W.length c W rfl rfl made rfl (by omega) (by omega) (by simp) (HR.out.below B0) hz ?_; intro v2 w2 h2' b2; rw [Nat.zero_add, List.nil_append] at h2'; obtain ⟨g, cap, rfl⟩ := Joins.ownsRow_form h2' h0)
  have CN := Lib.hid (new_any (some ⟨g, 0, none⟩) W.length cap W w2 rfl (by unfold maxLen; omega) (rowU_rd h2') HD.out)
  have b3 : Below w.heap.size w w2 := B0.trans (b2.mono (Nat.le_refl _))
  have HE := newE_ok h0 h1
  clear made h2' b2 B0
  go_wp2_with fail
  refine CN.out.mono ?_
  rintro r w3 (⟨h, _⟩ | ⟨_, b, p, rfl, ha, hbs, hps, b4⟩)
  · exact absurd HE h
  have b5 := Lib.hid (b3.trans (b4.mono b3.size))
  have hbs' : w.heap.size ≤ b := Nat.le_trans b3.size hbs
  have hps' : w.heap.size ≤ p := Nat.le_trans b3.size hps
  have HA := Lib.hid ha
  clear CN ha b4 b3 hbs hps HE
  go_wp2
  have CW2' := fun (i : Int) (l0 : -9223372036854775808 ≤ i) (l1 : i ≤ 9223372036854775807) => Lib.hid (fun W' => within_any i W.length W' l0 l1 h0 (by omega))
  have CW1' := fun (i : Int) (l0 : -9223372036854775808 ≤ i) (l1 : i ≤ 9223372036854775807) => Lib.hid (fun W' => within_any i 64 W' l0 l1 (by omega) (by omega))
  go_loopw [7] (fun i wr => ∃ (j : Nat) (q : Option Nat), j ≤ ds.length ∧ i = .int .i64 j ∧ At 75 wr b p q (runM W (ds.take j)) ∧ (∀ g, q = some g → w.heap.size ≤ g) ∧ Below w.heap.size w wr) (fun i _ => (ds.length - intOf i).toNat)
  case atStart => exact ⟨0, none, Nat.zero_le _, rfl, HA.out, (fun g h => by cases h), b5.out⟩
  case round =>
    clear HA b5
    obtain ⟨j, q, hj, rfl, ha2, hq, bel⟩ := hrel
    by_cases hlt : j < ds.length
    · obtain ⟨x, hx, hxm⟩ := dd_get hlt
      obtain ⟨xb, xo, ex, c5⟩ := HR2.out j x hx
      subst ex
      have xlt := Nat.lt_of_lt_of_le (World.block_lt_of_cell? w _ c5.c0) bel.size
      have c5 := c5.keep (bel.block xb (World.block_lt_of_cell? w _ c5.c0))
      have q0 := c5.c0
      have q1 := c5.c1
      have q2 := c5.c2
      have q3 := c5.c3
      have q4 := c5.c4
      have bx := HD2.out x hxm
      have d0 := bx.d0
      have d1 := bx.d1
      have v0 := bx.v0
      have v1 := bx.v1
      have CW1 := CW1' x.t bx.t0 bx.t1
      have CW2 := CW2' x.a bx.a0 bx.a1
      obtain ⟨hg, hll⟩ := run_good W h0 (ds.take j)
      have hll : (runM W (ds.take j)).L.length ≤ 200 := Nat.le_trans hll (by rw [List.length_take]; omega)
      have ht : 0 ≤ x.t % 64 ∧ x.t % 64 < 64 := by omega
      have ha : 0 ≤ x.a % (W.length : Int) ∧ x.a % (W.length : Int) < (runM W (ds.take j)).W.length := by
        rw [hg.len]
        exact ⟨Int.emod_nonneg _ (by omega), Int.emod_lt_of_pos _ (by omega)⟩
      obtain ⟨M, hM⟩ : ∃ M, runM W (ds.take j) = M := ⟨_, rfl⟩
      rw [hM] at ha2 hll ha
      have HA2 := Lib.hid ha2
      have HO := Lib.hid (show ∀ i, Of b p q i → w.heap.size ≤ i from fun i hi => by
        rcases hi with e | e | e
        · omega
        · omega
        · exact hq i e)
      have hlt' : (j : Int) < ds.length := by omega
      clear c5 bx hg ha2 hxm CW1' CW2'
      rcases (show x.d % 5 = 0 ∨ x.d % 5 = 1 ∨ x.d % 5 = 2 ∨ x.d % 5 = 3 ∨ x.d % 5 = 4 by omega) with c | c | c | c | c
      · have HS := Lib.hid (show runM W (ds.take (j + 1)) = M.load (x.t % 64) (x.a % (W.length : Int)) by rw [take_dd hx, run_snoc, hM]; unfold step Wm.deed nrm; simp [c])
        have u0 : (x.d % 5 == 0) = true := by simp [c]
        have HY := Lib.hid (show 0 = M.err (x.t % 64) (x.a % (W.length : Int)) from (Wm.err_ok ht.1 ht.2 ha.1 ha.2).symm)
        have HZ := Lib.hid (show M.get (x.a % (W.length : Int)) = if M.err (x.t % 64) (x.a % (W.length : Int)) = 0 then M.get (x.a % (W.length : Int)) else 0 by rw [← HY.out, if_pos rfl])
        have CC := fun W2 (h : At 75 W2 b p q M) => Lib.hid (loadZ b p q M (x.t % 64) (x.a % (W.length : Int)) (M.get (x.a % (W.length : Int))) 0 W2 h (by omega) HY.out HZ.out)
        clear c hx ht ha hM
        go_wp2
        go_quiet ((go_at_call 29; first | (with_reducible exact qL (CW1.out _)) | (with_reducible exact qA (CW1.out _)) | (with_reducible exact qL (CW2.out _)) | (with_reducible exact qA (CW2.out _))))
        go_wp2_with fail
        refine (CC _ (HA2.out.below (below_drewN (bel_alloc (Below.refl _ _) _) _))).out.mono ?_
        rintro r w4 ⟨rfl, hat⟩
        rw [Wm.after_zero] at hat
        have hat := hat.behind (Fr.of_below (below_drewN (bel_alloc (Below.refl _ _) _) _))
        obtain ⟨q1, h5, h6, h7⟩ := hat
        have bw := bel.trans (h7.below bel.size (fun i hi e => by have := HO.out i e; omega))
        have H5 := Lib.hid h5
        clear h5 h7 CC
        go_wp2
        go_roundw
        case rel => exact ⟨j + 1, q1, by omega, by go_num, by rw [HS.out]; exact H5.out, fun g hg => (h6 g hg).elim (hq g) (fun e => Nat.le_trans bel.size e), bw⟩
        case measure => simp [intOf]; omega
      · have HS := Lib.hid (show runM W (ds.take (j + 1)) = M.stor (x.t % 64) (x.a % (W.length : Int)) x.v by rw [take_dd hx, run_snoc, hM]; unfold step Wm.deed nrm; simp [c])
        have u0 : (x.d % 5 == 0) = false := by simp [c]
        have u1 : (x.d % 5 == 1) = true := by simp [c]
        have HY := Lib.hid (show 0 = M.err (x.t % 64) (x.a % (W.length : Int)) from (Wm.err_ok ht.1 ht.2 ha.1 ha.2).symm)
        have CC := fun W2 (h : At 75 W2 b p q M) => Lib.hid (storeZ b p q M (x.t % 64) (x.a % (W.length : Int)) x.v 0 W2 h (by omega) v0 v1 HY.out)
        clear c hx ht ha hM
        go_wp2
        go_quiet ((go_at_call 29; first | (with_reducible exact qL (CW1.out _)) | (with_reducible exact qA (CW1.out _)) | (with_reducible exact qL (CW2.out _)) | (with_reducible exact qA (CW2.out _))))
        go_wp2_with fail
        refine (CC _ (HA2.out.below (below_drewN (bel_alloc (Below.refl _ _) _) _))).out.mono ?_
        rintro r w4 ⟨rfl, hat⟩
        rw [Wm.after_zero] at hat
        have hat := hat.behind (Fr.of_below (below_drewN (bel_alloc (Below.refl _ _) _) _))
        obtain ⟨q1, h5, h6, h7⟩ := hat
        have bw := bel.trans (h7.below bel.size (fun i hi e => by have := HO.out i e; omega))
        have H5 := Lib.hid h5
        clear h5 h7 CC
        go_wp2
        go_roundw
        case rel => exact ⟨j + 1, q1, by omega, by go_num, by rw [HS.out]; exact H5.out, fun g hg => (h6 g hg).elim (hq g) (fun e => Nat.le_trans bel.size e), bw⟩
        case measure => simp [intOf]; omega
      · have HS := Lib.hid (show runM W (ds.take (j + 1)) = M.addw (x.t % 64) (x.a % (W.length : Int)) x.v by rw [take_dd hx, run_snoc, hM]; unfold step Wm.deed nrm; simp [c])
        have u0 : (x.d % 5 == 0) = false := by simp [c]
        have u1 : (x.d % 5 == 1) = false := by simp [c]
        have u2 : (x.d % 5 == 2) = true := by simp [c]
        have HY := Lib.hid (show 0 = M.err (x.t % 64) (x.a % (W.length : Int)) from (Wm.err_ok ht.1 ht.2 ha.1 ha.2).symm)
        have HZ := Lib.hid (show M.sum (x.a % (W.length : Int)) x.v = if M.err (x.t % 64) (x.a % (W.length : Int)) = 0 then M.sum (x.a % (W.length : Int)) x.v else 0 by rw [← HY.out, if_pos rfl])
        have CC := fun W2 (h : At 75 W2 b p q M) => Lib.hid (addZ b p q M (x.t % 64) (x.a % (W.length : Int)) x.v (M.sum (x.a % (W.length : Int)) x.v) 0 W2 h (by omega) v0 v1 HY.out HZ.out)
        clear c hx ht ha hM
        go_wp2
        go_quiet ((go_at_call 29; first | (with_reducible exact qL (CW1.out _)) | (with_reducible exact qA (CW1.out _)) | (with_reducible exact qL (CW2.out _)) | (with_reducible exact qA (CW2.out _))))
        go_wp2_with fail
        refine (CC _ (HA2.out.below (below_drewN (bel_alloc (Below.refl _ _) _) _))).out.mono ?_
        rintro r w4 ⟨rfl, hat⟩
        rw [Wm.after_zero] at hat
        have hat := hat.behind (Fr.of_below (below_drewN (bel_alloc (Below.refl _ _) _) _))
        obtain ⟨q1, h5, h6, h7⟩ := hat
        have bw := bel.trans (h7.below bel.size (fun i hi e => by have := HO.out i e; omega))
        have H5 := Lib.hid h5
        clear h5 h7 CC
        go_wp2
        go_roundw
        case rel => exact ⟨j + 1, q1, by omega, by go_num, by rw [HS.out]; exact H5.out, fun g hg => (h6 g hg).elim (hq g) (fun e => Nat.le_trans bel.size e), bw⟩
        case measure => simp [intOf]; omega
      · have HS := Lib.hid (show runM W (ds.take (j + 1)) = M.cas (x.t % 64) (x.a % (W.length : Int)) x.o x.v by rw [take_dd hx, run_snoc, hM]; unfold step Wm.deed nrm; simp [c])
        have u0 : (x.d % 5 == 0) = false := by simp [c]
        have u1 : (x.d % 5 == 1) = false := by simp [c]
        have u2 : (x.d % 5 == 2) = false := by simp [c]
        have u3 : (x.d % 5 == 3) = true := by simp [c]
        have HY := Lib.hid (show 0 = M.err (x.t % 64) (x.a % (W.length : Int)) from (Wm.err_ok ht.1 ht.2 ha.1 ha.2).symm)
        have HZ := Lib.hid (show decide (M.get (x.a % (W.length : Int)) = x.o) = decide (M.err (x.t % 64) (x.a % (W.length : Int)) = 0 ∧ M.get (x.a % (W.length : Int)) = x.o) by rw [← HY.out]; simp)
        have CC := fun W2 (h : At 75 W2 b p q M) => Lib.hid (casZ b p q M (x.t % 64) (x.a % (W.length : Int)) x.o x.v (decide (M.get (x.a % (W.length : Int)) = x.o)) 0 W2 h (by omega) v0 v1 HY.out HZ.out)
        clear c hx ht ha hM
        go_wp2
        go_quiet ((go_at_call 29; first | (with_reducible exact qL (CW1.out _)) | (with_reducible exact qA (CW1.out _)) | (with_reducible exact qL (CW2.out _)) | (with_reducible exact qA (CW2.out _))))
        go_wp2_with fail
        refine (CC _ (HA2.out.below (below_drewN (bel_alloc (Below.refl _ _) _) _))).out.mono ?_
        rintro r w4 ⟨rfl, hat⟩
        rw [Wm.after_zero] at hat
        have hat := hat.behind (Fr.of_below (below_drewN (bel_alloc (Below.refl _ _) _) _))
        obtain ⟨q1, h5, h6, h7⟩ := hat
        have bw := bel.trans (h7.below bel.size (fun i hi e => by have := HO.out i e; omega))
        have H5 := Lib.hid h5
        clear h5 h7 CC
        go_wp2
        go_roundw
        case rel => exact ⟨j + 1, q1, by omega, by go_num, by rw [HS.out]; exact H5.out, fun g hg => (h6 g hg).elim (hq g) (fun e => Nat.le_trans bel.size e), bw⟩
        case measure => simp [intOf]; omega
      · have HS := Lib.hid (show runM W (ds.take (j + 1)) = M by rw [take_dd hx, run_snoc, hM]; unfold step Wm.deed nrm; simp [c])
        have u0 : (x.d % 5 == 0) = false := by simp [c]
        have u1 : (x.d % 5 == 1) = false := by simp [c]
        have u2 : (x.d % 5 == 2) = false := by simp [c]
        have u3 : (x.d % 5 == 3) = false := by simp [c]
        clear c hx ht ha hM
        go_wp2
        go_quiet ((go_at_call 29; first | (with_reducible exact qL (CW1.out _)) | (with_reducible exact qA (CW1.out _)) | (with_reducible exact qL (CW2.out _)) | (with_reducible exact qA (CW2.out _))))
        go_wp2
        go_roundw
        case rel => exact ⟨j + 1, q, by omega, by go_num, by rw [HS.out]; exact HA2.out.below (below_drewN (bel_alloc (Below.refl _ _) _) _), hq, bel_trans bel (below_drewN (bel_alloc (Below.refl _ _) _) _)⟩
        case measure => simp [intOf]; omega
    · obtain rfl : j = ds.length := by omega
      rw [List.take_length] at ha2
      have HA2 := Lib.hid ha2
      have HO := Lib.hid (show ∀ i, Of b p q i → w.heap.size ≤ i from fun i hi => by
        rcases hi with e | e | e
        · omega
        · omega
        · exact hq i e)
      clear ha2 hq CW1' CW2'
      go_wp2
      go_ret
      exact ⟨b, p, q, rfl, HA2.out, HO.out, bel⟩
end Wd
end Go.Proofs.Ytpakolaegbccdaa
