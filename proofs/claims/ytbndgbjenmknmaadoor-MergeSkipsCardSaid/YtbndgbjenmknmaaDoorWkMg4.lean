/- MergeSkips: the walk (written by tools/mk7skp.py). Conditions: those of the frame, and Tz. -/
import Derived.Test.YtbndgbjenmknmaaDoorMsL
import Derived.Deep.LoopGhost
namespace Go.Proofs.YtbndgbjenmknmaaDoor
open Go.RowKit Go.Sort
set_option linter.unusedVariables false
set_option linter.unusedSimpArgs false
set_option linter.unnecessarySimpa false
namespace Mg
open Om (Pr Asc asc_ext)
/-- what is left when all with lesser keys are passed over -/
def past (K : Int) (all : List Pt) : List Pt := all.filter fun y => decide (K ≤ y.x.1)
def pastR (K : Int) (l : List Pr) : List Pr := l.filter fun x => decide (K ≤ x.1)
theorem sub_past (K : Int) (v : Nat) (all : List Pt) : sub v (past K all) = pastR K (sub v all) := by
  unfold sub past pastR
  rw [List.filter_map, List.filter_filter, List.filter_filter]
  congr 1
  refine List.filter_congr fun y _ => ?_
  simp [Bool.and_comm]
theorem gp_past {S : Nat} {all : List Pt} (h : Gp S all) (K : Int) : Gp S (past K all) := ⟨List.Pairwise.sublist List.filter_sublist h.asc, fun y hy => h.mem y (List.mem_filter.1 hy).1⟩
theorem past_cons_no {K : Int} {y : Pt} {all : List Pt} (h : y.x.1 < K) : past K (y :: all) = past K all := by
  unfold past; rw [List.filter_cons_of_neg (by simp; omega)]
theorem past_cons_yes {K : Int} {y : Pt} {all : List Pt} (h : ¬ y.x.1 < K) : past K (y :: all) = y :: past K all := by
  unfold past; rw [List.filter_cons_of_pos (by simp; omega)]
/-- the pairs of a list ascend -/
theorem sub_asc {S : Nat} {all : List Pt} (h : Gp S all) (v : Nat) : (sub v all).Pairwise fun a b => a.1 < b.1 := by
  unfold sub
  rw [List.pairwise_map]
  exact List.Pairwise.sublist List.filter_sublist h.asc
theorem pastR_keep {K : Int} {l : List Pr} (h : ∀ x ∈ l, K ≤ x.1) : pastR K l = l := by
  unfold pastR; exact List.filter_eq_self.2 fun x hx => by simpa using h x hx
theorem pastR_cons_no {K : Int} {x : Pr} {l : List Pr} (h : x.1 < K) : pastR K (x :: l) = pastR K l := by
  unfold pastR; rw [List.filter_cons_of_neg (by simp; omega)]
theorem pastR_cons_yes {K : Int} {x : Pr} {l : List Pr} (h : ¬ x.1 < K) : pastR K (x :: l) = x :: pastR K l := by
  unfold pastR; rw [List.filter_cons_of_pos (by simp; omega)]
theorem Fd.skip {S : Nat} {M : Mg} {all : List Pt} {R : Nat → List Pr} (h : Fd S M all R) (hg : Gp S all) (K : Int) : Fd S (M.skipped K) (past K all) (fun v => pastR K (R v)) := by
  refine ⟨h.ls, fun v hv hs => ?_, ?_, fun y hy => ?_⟩
  · rw [sub_past]
    rcases h.st v hv hs with ⟨h1, h2, h3⟩ | ⟨h1, h2, h3⟩ | ⟨h1, h2, h3, h4⟩
    · rw [h3]
      by_cases hk : (M.p v).1 < K
      · refine .inr (.inl ⟨by simp only [Mg.skipped]; rw [if_pos ⟨h1, hk⟩], h2, pastR_cons_no hk⟩)
      · refine .inl ⟨by simp only [Mg.skipped]; rw [if_neg (fun e => hk e.2)]; exact h1, h2, pastR_cons_yes hk⟩
    · exact .inr (.inl ⟨by simp [Mg.skipped, h1], h2, by rw [h3]⟩)
    · exact .inr (.inr ⟨by simp [Mg.skipped, h1], h2, by rw [h3]; rfl, by rw [h4]; rfl⟩)
  · rcases h.fu with h1 | h1
    · exact .inl (by rw [h1]; rfl)
    · exact .inr h1
  · obtain ⟨h1, h2⟩ := List.mem_filter.1 hy
    have h3 := h.fl y h1
    have h4 : K ≤ y.x.1 := by simpa using h2
    show (if M.fl < K then K else M.fl) ≤ y.x.1
    split <;> omega
theorem skip_again {M : Mg} {K J : Int} (h : J ≤ K) : (M.skipped K).skipped J = M.skipped K := by
  unfold Mg.skipped
  simp only [Mg.mk.injEq, true_and, and_true]
  refine ⟨funext fun u => ?_, ?_⟩
  · by_cases e : M.hs u = true ∧ (M.p u).1 < K
    · simp [e]
    · simp only [if_neg e]
      rw [if_neg]
      intro e2
      exact e ⟨e2.1, by omega⟩
  · split <;> split <;> omega
theorem sk_hs {M : Mg} {K : Int} {v : Nat} : (M.skipped K).hs v = true ↔ M.hs v = true ∧ ¬ (M.p v).1 < K := by
  unfold Mg.skipped
  simp only
  by_cases e : M.hs v = true ∧ (M.p v).1 < K
  · rw [if_pos e]; exact ⟨(fun h => by cases h), fun h => absurd e.2 h.2⟩
  · rw [if_neg e]; exact ⟨fun h => ⟨h, fun h2 => e ⟨h, h2⟩⟩, fun h => h.1⟩
theorem cnt_skip (M : Mg) (K : Int) : ∀ n, cnt M.hs n = M.skN K n + cnt (M.skipped K).hs n
  | 0 => rfl
  | n + 1 => by
    have ih := cnt_skip M K n
    by_cases e : M.hs n = true ∧ (M.p n).1 < K
    · have h2 : (M.skipped K).hs n = false := by
        cases h : (M.skipped K).hs n with
        | false => rfl
        | true => exact absurd e.2 (sk_hs.1 h).2
      rw [cnt_yes e.1, skN_yes e.1 e.2, cnt_no h2]; omega
    · rw [skN_no e]
      cases h : M.hs n with
      | true => rw [cnt_yes h, cnt_yes (sk_hs.2 ⟨h, fun h2 => e ⟨h, h2⟩⟩)]; omega
      | false =>
        have h2 : (M.skipped K).hs n = false := by
          cases h3 : (M.skipped K).hs n with
          | false => rfl
          | true => rw [(sk_hs.1 h3).1] at h; cases h
        rw [cnt_no h, cnt_no h2]; omega
theorem sk_mem {M : Mg} (hi : M.Inv) (K : Int) {x : Pr} : x ∈ (M.skipped K).list ↔ x ∈ M.list ∧ ¬ x.1 < K := by
  rw [list_mem (inv_skipped hi K), list_mem hi]
  constructor
  · rintro ⟨v, hv, h1, h2⟩
    have h2 : M.p v = x := h2
    obtain ⟨h3, h4⟩ := sk_hs.1 h1
    exact ⟨⟨v, hv, h3, h2⟩, by rw [← h2]; exact h4⟩
  · rintro ⟨⟨v, hv, h1, h2⟩, h3⟩
    exact ⟨v, hv, sk_hs.2 ⟨h1, by rw [h2]; exact h3⟩, h2⟩
/-- what a skip takes off the candidates -/
theorem list_skip {M : Mg} (hi : M.Inv) (K : Int) : ∃ L, M.list = L ++ (M.skipped K).list ∧ (∀ x ∈ L, x.1 < K) ∧ (∀ x ∈ (M.skipped K).list, ¬ x.1 < K) ∧ L.length = M.skN K 64 := by
  have h2 : ∀ x ∈ (M.skipped K).list, ¬ x.1 < K := fun x hx => ((sk_mem hi K).1 hx).2
  have h1 : ∀ x ∈ M.list.filter (fun x => decide (x.1 < K)), x.1 < K := fun x hx => by simpa using (List.mem_filter.1 hx).2
  have e : M.list = M.list.filter (fun x => decide (x.1 < K)) ++ (M.skipped K).list := by
    refine asc_ext (list_asc M) (List.pairwise_append.2 ⟨List.Pairwise.sublist List.filter_sublist (list_asc M), list_asc _, fun a ha b hb => by have := h1 a ha; have := h2 b hb; omega⟩) fun x => ?_
    rw [List.mem_append, List.mem_filter, sk_mem hi K]
    constructor
    · intro h
      by_cases hk : x.1 < K
      · exact .inl ⟨h, by simpa using hk⟩
      · exact .inr ⟨h, hk⟩
    · rintro (h | h)
      · exact h.1
      · exact h.1
  refine ⟨_, e, h1, h2, ?_⟩
  have l1 := list_count _ M hi rfl
  have l2 := list_count _ (M.skipped K) (inv_skipped hi K) rfl
  have l3 := cnt_skip M K 64
  have l4 := congrArg List.length e
  rw [List.length_append] at l4
  omega
theorem skN_again {M : Mg} {K J : Int} (h : J ≤ K) : (M.skipped K).skN J 64 = 0 := by
  have : ∀ n, (M.skipped K).skN J n = 0 := fun n => by
    induction n with
    | zero => rfl
    | succ n ih =>
      rw [skN_no, ih]
      rintro ⟨h1, h2⟩
      have h3 := (sk_hs.1 h1).2
      have h4 : (M.p n).1 < J := h2
      omega
  exact this 64
end Mg
namespace Wk
open Hq
open Om (bel_alloc Pr bel_trans flat below_drewN)
open Mg (popT Pt Gp sub RdP past pastR upd)
open Dm (flatI RdK cell_lt)
theorem gp_drop {S : Nat} {all : List Pt} (h : Gp S all) (k : Nat) : Gp S (all.drop k) := ⟨List.Pairwise.sublist (List.drop_sublist k all) h.asc, fun y hy => h.mem y (List.mem_of_mem_drop hy)⟩
theorem drop_at {all : List Pt} {k : Nat} {y : Pt} (h : all[k]? = some y) : all.drop k = y :: all.drop (k + 1) := by
  have hk := (List.getElem?_eq_some_iff.1 h).1
  rw [List.drop_eq_getElem_cons hk]
  congr 1
  rw [List.getElem?_eq_getElem hk] at h
  exact Option.some.inj h
/-- the blocks that stay: those of the caller, and those of the sequences -/
def Xs (B K E : Nat) : Nat → Prop := fun i => i < B ∨ (K ≤ i ∧ i < E)
/-- the sequences are laid into a box -/
theorem box_ar {S n : Nat} {w1 w2 : World} {cs : List Value} {AL : Option Addr} {cL : Nat} {all : List Pt} (h : LiP S n w1 w2 cs AL cL all) (B : Nat) (o : Obj) (ho : ∀ v, v < 64 → ((w2.alloc o).cell? ⟨w2.heap.size, v, none⟩).isSome = true ∧ (w2.alloc o).frozen? ⟨w2.heap.size, v, none⟩ = false) :
    Ar (Xs B w1.heap.size (w2.heap.size + 1)) ((w2.alloc o).setCells w2.heap.size 0 cs) w2.heap.size (fun v => sub v all) ∧ Below w2.heap.size w2 ((w2.alloc o).setCells w2.heap.size 0 cs) ∧ ((w2.alloc o).setCells w2.heap.size 0 cs).heap.size = w2.heap.size + 1 := by
  have sb := fun i (hi : i ≠ w2.heap.size) => Mg.set_block w2.heap.size i hi cs 0 (w2.alloc o)
  have hsz := (sb (w2.heap.size + 1) (by omega)).2.1
  have hal : (w2.alloc o).heap.size = w2.heap.size + 1 := by simp
  have bal := bel_alloc (Below.refl w2.heap.size w2) o
  have RG := World.rangeAt_setCells_same (w2.alloc o) w2.heap.size 0 cs (fun i hi => by rw [h.n] at hi; rw [Nat.zero_add]; exact ho i hi)
  refine ⟨⟨fun v hv => ?_, fun v hv => by rw [World.frozen?_setCells]; exact (ho v hv).2⟩, ?_, by rw [hsz, hal]⟩
  · obtain ⟨A, c, e, hc, hr, ha⟩ := h.c v hv
    refine ⟨A, c, by have := RG v _ e; rwa [Nat.zero_add] at this, hc, rd_keep hr fun a ea => ?_, fun a ea => ?_⟩
    · have h1 := ha a ea
      exact (sb a.block (by omega)).1.trans (bal.block a.block h1.2)
    · have h1 := ha a ea
      exact ⟨.inr ⟨h1.1, by omega⟩, by omega⟩
  · have h0 := sb (w2.heap.size + 1) (by omega)
    exact ⟨h0.2.2.1.trans bal.os, h0.2.2.2.1.trans bal.tape, h0.2.2.2.2.trans bal.output, by rw [hsz, hal]; omega, fun i hi => (sb i (by omega)).1.trans (bal.block i hi)⟩
theorem rdp_keep {w w' : World} {A : Option Addr} {l : List Pt} (h : RdP w A l) (hb : ∀ a, A = some a → w'.heap[a.block]? = w.heap[a.block]?) : RdP w' A l := fun i y hi => by
  obtain ⟨b, o, e, p3⟩ := h i y hi
  exact ⟨b, o, e, p3.keep (hb _ e)⟩
theorem kp_below {X : Nat → Prop} {pb B : Nat} {w w' : World} (h : Kp X pb w w') (hX : ∀ i, i < B → X i) (hB : B ≤ pb) : Below B w w' := ⟨h.os, h.tape, h.output, h.size, fun i hi => h.block i (hX i hi) (by omega)⟩
theorem upd_upd (Q : Nat → List Pr) (v : Nat) (a b : List Pr) : upd (upd Q v a) v b = upd Q v b := funext fun u => by
  by_cases e : u = v
  · simp [upd, e]
  · simp [upd, e]
theorem upd_self {Q : Nat → List Pr} {v : Nat} {a : List Pr} (h : Q v = a) : upd Q v a = Q := funext fun u => by
  by_cases e : u = v
  · subst e; simp [upd, h]
  · simp [upd, e]
theorem upd_at (Q : Nat → List Pr) (v : Nat) (a : List Pr) : upd Q v a v = a := by simp [upd]
theorem upd_ne {Q : Nat → List Pr} {v u : Nat} {a : List Pr} (h : u ≠ v) : upd Q v a u = Q u := by simp [upd, h]
theorem fd_asc {S : Nat} {M : Mg.Mg} {all : List Pt} {R : Nat → List Pr} (h : Mg.Fd S M all R) (hg : Gp S all) {v : Nat} (hv : v < 64) (hs : S.testBit v = true) : (R v).Pairwise fun a b => a.1 < b.1 := by
  have ha := Mg.sub_asc hg v
  rcases h.st v hv hs with ⟨_, _, h3⟩ | ⟨_, _, h3⟩ | ⟨_, _, _, h3⟩
  · rw [h3] at ha; exact (List.pairwise_cons.1 ha).2
  · rw [h3] at ha; exact ha
  · rw [h3]; exact List.Pairwise.nil
theorem past_at {K : Int} {x : Pr} {r : List Pr} (h : (x :: r).Pairwise fun a b => a.1 < b.1) (hk : ¬ x.1 < K) : pastR K (x :: r) = x :: r := Mg.pastR_keep fun y hy => by
  rcases List.mem_cons.1 hy with e | hy
  · rw [e]; omega
  · have := (List.pairwise_cons.1 h).1 y hy; omega
theorem fd_congr {S : Nat} {M : Mg.Mg} {all : List Pt} {R R' : Nat → List Pr} (h : Mg.Fd S M all R) (e : ∀ v, v < 64 → S.testBit v = true → R' v = R v) : Mg.Fd S M all R' :=
  ⟨h.ls, fun v hv hs => by rw [e v hv hs]; exact h.st v hv hs, h.fu, h.fl⟩
set_option maxRecDepth 100000 in
set_option maxHeartbeats 8000000 in
theorem walk_mergeSkips (a0 : Int) (a1 : Option Addr) (a1n a1c : Nat) (a1v : List Mg.Pt) (a2After : Int) (a2Key : Int) (w : World) (a0l : 0 ≤ a0) (a0h : a0 ≤ 18446744073709551615) (a1e : a1v.length = a1n) (a1m : a1n ≤ maxLen) (a1r : Mg.RdP w a1 a1v) (a1b : Mg.BdP a1v) (a1z : a1 = none → a1c = 0) (a2Afterl : 0 ≤ a2After) (a2Afterh : a2After ≤ 255) (a2Keyl : 0 ≤ a2Key) (a2Keyh : a2Key ≤ 18446744073709551615) (hT : Dm.Tz w) :
    Calls Tryd.prog 6 #[.int .u64 a0, .slice a1 a1n a1c, .agg #[.int .u8 a2After, .int .u64 a2Key]] w fun e w' => e = .returned (.bool true) ∧ Below w.heap.size w w' := by
  unfold maxLen at a1m
  obtain ⟨S, rfl⟩ : ∃ S : Nat, a0 = S := ⟨a0.toNat, by omega⟩
  have hS : S < 18446744073709551616 := by omega
  have HR := Lib.hid a1r; have HE := Lib.hid a1e; have HB := Lib.hid a1b
  have hw0 : 0 < w.heap.size := cell_lt (hT 0 (by decide))
  have T0 := Lib.hid hT
  clear a1r a1e a1b hT a1z
  by_cases hn : 80 < a1n
  · have t0 : decide (80 < (a1n : Int)) = true := decide_eq_true (by omega)
    have BX := bel_alloc (Below.refl w.heap.size w) (.cells #[.int .u8 a2After, .int .u64 a2Key] 58)
    go_enter Tryd.func6, Tryd.ntmps6
    go_wp2_with fail
    refine (known_any _ (T0.out.belowN hw0 BX)).mono ?_
    rintro r w1 ⟨rfl, bb⟩
    go_wp2_with fail
    go_ret
    exact ⟨rfl, bel_trans BX bb⟩
  have t0 : decide (80 < (a1n : Int)) = false := decide_eq_false (by omega)
  have hz := zp_run
  obtain ⟨zs, hzs⟩ : ∃ zs : Array Value, zs = (List.replicate 64 (Value.slice none 0 0)).toArray := ⟨_, rfl⟩
  have hne : ¬ zs = #[] := fun e => by rw [e] at hzs; have := congrArg Array.size hzs; revert this; decide
  have hsz : zs.size = 64 := by rw [hzs]; decide
  have zc : ∀ v, v < 64 → zs[v]? = some (.slice none 0 0) := fun v hv => by rw [hzs]; exact zs_get hv
  rw [← hzs] at hz
  have ZC := Lib.hid zc
  clear hzs zc
  go_enter Tryd.func6, Tryd.ntmps6
  go_wp2_with fail
  have BX := bel_alloc (Below.refl w.heap.size w) (.cells #[.int .u8 a2After, .int .u64 a2Key] 58)
  have z0 : (w.alloc (.cells #[.int .u8 a2After, .int .u64 a2Key] 58)).cell? ⟨w.heap.size, 0, none⟩ = some (.int .u8 a2After) := by simp
  have z1 : (w.alloc (.cells #[.int .u8 a2After, .int .u64 a2Key] 58)).cell? ⟨w.heap.size, 1, none⟩ = some (.int .u64 a2Key) := by simp
  have hxs : (w.alloc (.cells #[.int .u8 a2After, .int .u64 a2Key] 58)).heap.size = w.heap.size + 1 := by simp
  generalize w.alloc (.cells #[.int .u8 a2After, .int .u64 a2Key] 58) = W at *
  have TW := Lib.hid (T0.out.belowN hw0 BX)
  have HRW := Lib.hid (Mg.RdP.below HR.out BX)
  have HBX := Lib.hid BX
  have hxlt : w.heap.size < W.heap.size := by omega
  generalize hxb : w.heap.size = xb at hxlt z0 z1 ⊢
  have Z0 := Lib.hid z0
  have Z1 := Lib.hid z1
  have HXB0 := Lib.hid hxb
  have hw0W : 0 < W.heap.size := by omega
  clear BX hxs z0 z1 T0 HR hxb
  refine (newS (fun i => i < W.heap.size) S W hS (fun i h => h)).mono ?_
  rintro r w1 ⟨rfl, sm, bb⟩
  have SM := Lib.hid sm
  have B1 := Lib.hid bb
  clear sm bb
  go_wp2_with fail
  refine (lists_any S hS a1 a1n a1c a1v w1 HE.out (by omega) (Mg.RdP.below HRW.out B1.out) HB.out).mono ?_
  rintro r w2 ⟨cs, AL, cL, all, rfl, li⟩
  have LI := Lib.hid li
  have lcs := li.n
  have hle := li.le
  have hal : (w2.alloc (.cells zs 49)).heap.size = w2.heap.size + 1 := by simp
  have hcell : ∀ v, v < 64 → ((w2.alloc (.cells zs 49)).cell? ⟨w2.heap.size, v, none⟩).isSome = true ∧ (w2.alloc (.cells zs 49)).frozen? ⟨w2.heap.size, v, none⟩ = false := fun v hv => by
    refine ⟨?_, by simp⟩
    rw [World.cell?_alloc_new, ZC.out v hv]; rfl
  obtain ⟨ar, b3, s3⟩ := box_ar li W.heap.size (.cells zs 49) hcell
  have one : ∀ u ∈ cs, u.oneCell' = true := fun u hu => by
    obtain ⟨i, hi⟩ := List.getElem?_of_mem hu
    have h64 : i < 64 := by have := (List.getElem?_eq_some_iff.1 hi).1; omega
    obtain ⟨A, c, e, _⟩ := li.c i h64
    rw [e] at hi; injection hi with hi; rw [← hi]; rfl
  have sc : (storeCells ⟨w2.heap.size, 0, none⟩ cs).run Tryd.prog (w2.alloc (.cells zs 49)) = .ok () ((w2.alloc (.cells zs 49)).setCells w2.heap.size 0 cs) := by
    have := run_storeCells_cells (P := Tryd.prog) w2.heap.size 0 cs 0 (w2.alloc (.cells zs 49)) (fun j hj => by have := (hcell j (by omega)).1; simpa using this) (fun j hj => by have := (hcell j (by omega)).2; simpa using this) one
    simpa only [Nat.add_zero] using this
  have cne : ¬ cs.toArray = #[] := fun e => by have := congrArg Array.size e; simp at this; rw [this] at lcs; simp at lcs
  have csz : cs.toArray.size = 64 := by rw [List.size_toArray, lcs]
  have AR := Lib.hid ar
  have B3 := Lib.hid b3
  have S3 := Lib.hid s3
  clear li ar b3 s3 hcell one hal
  have BBq := B1.out.trans ((LI.out.b.trans (B3.out.mono LI.out.b.size)).mono B1.out.size)
  have y0 := (BBq.cell (p := ⟨xb, 0, none⟩) hxlt).trans Z0.out
  have y1 := (BBq.cell (p := ⟨xb, 1, none⟩) hxlt).trans Z1.out
  clear BBq
  go_wp2_with fail
  have BB3 := B1.out.trans ((LI.out.b.trans (B3.out.mono LI.out.b.size)).mono B1.out.size)
  have B13 := LI.out.b.trans (B3.out.mono LI.out.b.size)
  have hb1 := B1.out.size
  have hb2 := LI.out.b.size
  have X0 : Xs W.heap.size w1.heap.size (w2.heap.size + 1) 0 := .inl hw0W
  have XP : Xs W.heap.size w1.heap.size (w2.heap.size + 1) w2.heap.size := .inr ⟨hb2, by omega⟩
  have SM3 := Lib.hid (show Sm (Xs W.heap.size w1.heap.size (w2.heap.size + 1)) ((w2.alloc (.cells zs 49)).setCells w2.heap.size 0 cs) W.heap.size (Mg.Mg.new fun v => S.testBit v) from SM.out.more B13 fun i hi => by
    rcases hi with h | h
    · exact .inl h
    · exact .inr ⟨h.1, by rw [S3.out]; exact h.2⟩)
  have RD3 := Lib.hid (rdp_keep LI.out.rd fun a e => B3.out.block a.block (LI.out.al a e).2)
  have ALX := Lib.hid (show ∀ a, AL = some a → Xs W.heap.size w1.heap.size (w2.heap.size + 1) a.block ∧ a.block ≠ w2.heap.size from fun a e => by
    have h := LI.out.al a e
    exact ⟨.inr ⟨h.1, by omega⟩, by omega⟩)
  have TZ3 := Lib.hid (TW.out.belowN hw0W BB3)
  have BB := Lib.hid BB3
  have HG := Lib.hid LI.out.g
  clear BB3 B13 sc LI SM B1 B3
  generalize (w2.alloc (.cells zs 49)).setCells w2.heap.size 0 cs = W3 at *
  generalize hpb : w2.heap.size = pb at *
  generalize hX : Xs W.heap.size w1.heap.size (pb + 1) = X at *
  have HXB := Lib.hid (show ∀ i, i < W.heap.size → X i from fun i hi => by rw [← hX]; exact .inl hi)
  have hp0 : 0 ≠ pb := by omega
  have hpw : W.heap.size ≤ pb := by omega
  clear hX
  obtain ⟨n0, hn0⟩ : ∃ n0 : Nat, a2After % 20 = n0 := ⟨(a2After % 20).toNat, by omega⟩
  have hn20 : n0 < 20 := by omega
  have HY1 := Lib.hid y1
  have hXx := HXB.out xb hxlt
  have hxp : xb ≠ pb := by omega
  rw [hn0]
  clear hn0
  clear y0 y1
  go_loopw [11] (fun s wr => ∃ (k : Nat) (M : Mg.Mg) (R : Nat → List Pr), s = .int .i64 k ∧ k ≤ n0 ∧ k ≤ all.length ∧ Sm X wr W.heap.size M ∧ Mg.Fd S M (all.drop k) R ∧ Ar X wr pb R ∧ Kp X pb W3 wr) (fun s _ => (all.length - intOf s).toNat)
  case atStart => exact ⟨0, _, _, rfl, Nat.zero_le _, Nat.zero_le _, SM3.out, Mg.Fd.start HG.out, AR.out, Kp.refl _ _ _⟩
  case round =>
    clear SM3 AR
    obtain ⟨k, M, R, rfl, hkn, hk, sm, fd, ar, kp⟩ := hrel
    have SM := Lib.hid sm
    have FD := Lib.hid fd
    have AR := Lib.hid ar
    have KP := Lib.hid kp
    have TZ := Lib.hid (kp.tz X0 hp0 TZ3.out)
    have hal : all.length ≤ 80 := by omega
    clear sm fd ar kp
    by_cases h1 : k < n0
    · have t1 : decide ((k : Int) < (n0 : Int)) = true := decide_eq_true (by omega)
      by_cases hlt : k < all.length
      · have t2 : decide ((k : Int) < (all.length : Int)) = true := decide_eq_true (by omega)
        have k0 : (k : Int) < (all.length : Int) := by omega
        obtain ⟨y, hy⟩ : ∃ y, all[k]? = some y := ⟨_, List.getElem?_eq_getElem hlt⟩
        have hd := drop_at hy
        have py := HG.out.mem y (List.mem_of_getElem? hy)
        obtain ⟨ab, ao, eA, q0, q1, q2⟩ := (rdp_keep RD3.out fun a e => KP.out.block a.block (ALX.out a e).1 (ALX.out a e).2) k y hy
        have hab := ALX.out _ eA
        have hXa : X ab := hab.1
        have hab2 : ab ≠ pb := hab.2
        subst eA
        obtain ⟨yl, yk, yv⟩ := y
        obtain ⟨v, rfl⟩ : ∃ v : Nat, yl = v := ⟨yl.toNat, by have h : 0 ≤ yl := py.l0; omega⟩
        have q1 : wr.cell? ⟨ab, ao + k * 3 + 1, none⟩ = some (.int .u64 yk) := q1
        have q2 : wr.cell? ⟨ab, ao + k * 3 + 2, none⟩ = some (.int .u64 yv) := q2
        have fe := feed_any X W.heap.size pb S M (all.drop k) R wr SM.out X0 XP hp0 AR.out FD.out (gp_drop HG.out k) TZ.out
        have hgp := gp_drop HG.out k
        rw [hd] at fe hgp
        have FE := Lib.hid fe
        have GP := Lib.hid hgp
        clear fe hgp hy hd hab py q0
        go_wp2_with fail
        refine FE.out.mono ?_
        rintro r w4 ⟨rfl, N, R', sm, hm, fd, ar, kp⟩
        have hh := fd.head GP.out hm sm.inv
        have FD5 := Lib.hid (fd.pop GP.out hm sm.inv)
        simp only [Int.toNat_natCast] at hh FD5
        have SM4 := Lib.hid sm
        have AR4 := Lib.hid ar
        have KP4 := Lib.hid kp
        have HM := Lib.hid hm
        have HH := Lib.hid hh
        have r1 := (World.cell?_of_block (a := ⟨ab, ao + k * 3 + 1, none⟩) (kp.block ab hXa hab2)).trans q1
        have r2 := (World.cell?_of_block (a := ⟨ab, ao + k * 3 + 2, none⟩) (kp.block ab hXa hab2)).trans q2
        clear sm hm fd ar kp hh q1 q2 FD AR SM FE
        go_wp2_with fail
        refine (popE SM4.out (Below.refl _ _) (popT (yk, yv) (v : Int) true 0) (N.popped v) (fun r N' hp => by
          have h := pops_least HM.out v HH.out.1 HH.out.2.1 (fun u hu hhu hne => by rw [HH.out.2.2.1]; exact HH.out.2.2.2 u hu hhu hne) r N' hp
          rw [HH.out.2.2.1] at h; exact h)).mono ?_
        rintro r w6 ⟨rfl, sm, kx⟩
        have SM6 := Lib.hid sm
        have KX6 := Lib.hid kx
        have m1 := (World.cell?_of_block (a := ⟨ab, ao + k * 3 + 1, none⟩) (kx.block ab hXa)).trans r1
        have m2 := (World.cell?_of_block (a := ⟨ab, ao + k * 3 + 2, none⟩) (kx.block ab hXa)).trans r2
        have habl := Nat.lt_of_lt_of_le (SM4.out.lt ab hXa) kx.size
        clear sm kx r1 r2
        unfold popT
        go_wp2_with fail
        have BA := bel_alloc (Below.refl w6.heap.size w6) (.cells #[.int .u64 yk, .int .u64 yv] 39)
        have p0 : (w6.alloc (.cells #[.int .u64 yk, .int .u64 yv] 39)).cell? ⟨w6.heap.size, 0, none⟩ = some (.int .u64 yk) := by simp
        have p1 : (w6.alloc (.cells #[.int .u64 yk, .int .u64 yv] 39)).cell? ⟨w6.heap.size, 1, none⟩ = some (.int .u64 yv) := by simp
        replace m1 := (BA.cell (p := ⟨ab, ao + k * 3 + 1, none⟩) habl).trans m1
        replace m2 := (BA.cell (p := ⟨ab, ao + k * 3 + 2, none⟩) habl).trans m2
        have HBA := Lib.hid BA
        clear BA habl
        generalize w6.alloc (.cells #[.int .u64 yk, .int .u64 yv] 39) = W7 at *
        generalize w6.heap.size = pb7 at p0 p1 ⊢
        go_quiet (fail)
        go_wp2_with fail
        go_roundw
        case rel =>
          have BD := below_drewN HBA.out nq
          exact ⟨k + 1, N.popped v, R', by go_num, by omega, by omega, SM6.out.below BD, FD5.out, AR4.out.keep XP (fun i hi => (BD.block i (SM6.out.lt i hi)).trans (KX6.out.block i hi)), ((KP.out.trans KP4.out).kx KX6.out).below BD SM6.out.lt⟩
        case measure => simp [intOf]; omega
      · have t2 : decide ((k : Int) < (all.length : Int)) = false := decide_eq_false (by omega)
        have hdr : all.drop k = all.drop n0 := by rw [List.drop_eq_nil_of_le (by omega), List.drop_eq_nil_of_le (by omega)]
        have FDn := Lib.hid (show Mg.Fd S M (all.drop n0) R by rw [← hdr]; exact FD.out)
        have y1 := (World.cell?_of_block (a := ⟨xb, 1, none⟩) (KP.out.block xb hXx hxp)).trans HY1.out
        have HYr := Lib.hid y1
        have hbl : M.list.length ≤ 64 := Mg.list_len M
        have hll : (M.skipped a2Key).list.length ≤ 64 := Mg.list_len _
        obtain ⟨L1, hl, hL1, hL2, hlen⟩ := Mg.list_skip SM.out.inv a2Key
        have hsum := congrArg List.length hl
        rw [List.length_append, hlen] at hsum
        obtain ⟨kk, hkk⟩ : ∃ kk, M.skN a2Key 64 = kk := ⟨_, rfl⟩
        obtain ⟨lb, hlb⟩ : ∃ lb, M.list.length = lb := ⟨_, rfl⟩
        obtain ⟨la, hla⟩ : ∃ la, (M.skipped a2Key).list.length = la := ⟨_, rfl⟩
        rw [hkk] at hsum hlen
        rw [hlb] at hsum hbl
        rw [hla] at hsum hll
        have HKK := Lib.hid hkk
        have HLB := Lib.hid hlb
        have HLA := Lib.hid hla
        have t3 : decide ((kk : Int) < 0) = false := decide_eq_false (by omega)
        have t4 : ((la : Int) + (kk : Int) != (lb : Int)) = false := by simp; omega
        have hkb : kk ≤ 64 := by omega
        have HSUM := Lib.hid hsum
        have HL := Lib.hid hl
        have HL1 := Lib.hid hL1
        have HL2 := Lib.hid hL2
        have HLN := Lib.hid hlen
        clear FD hdr y1 hl hL1 hL2 hlen hkk hlb hla hsum
        go_wp2_with fail
        refine (listS SM.out).mono ?_
        rintro r wa ⟨⟨A1, c1, rfl, rd1, ho1⟩, hb1⟩
        have hA1 : ∀ a, A1 = some a → wr.heap.size ≤ a.block ∧ a.block < wa.heap.size := fun a ea => by
          obtain ⟨_, A, c, e, _, _, hf⟩ := Om.row_form ho1
          injection e with e1 e2 e3
          have := hf a (by rw [← e1]; exact ea)
          exact ⟨this.1, this.2.1⟩
        obtain ⟨Y, hY⟩ : ∃ Y : Nat → Prop, Y = fun i => X i ∨ (wr.heap.size ≤ i ∧ i < wa.heap.size) := ⟨_, rfl⟩
        have hXY : ∀ i, X i → Y i := fun i hi => by rw [hY]; exact .inl hi
        have SMa := Lib.hid (show Sm Y wa W.heap.size M from SM.out.more hb1 fun i hi => by rw [hY] at hi; exact hi)
        have HYA := Lib.hid (show ∀ a, A1 = some a → Y a.block from fun a ea => by rw [hY]; exact .inr (hA1 a ea))
        have LTX := Lib.hid SM.out.lt
        have HXY := Lib.hid hXY
        have HB1 := Lib.hid hb1
        have RD1 := Lib.hid rd1
        have ya := (hb1.cell (p := ⟨xb, 1, none⟩) (SM.out.lt xb hXx)).trans HYr.out
        rw [HLB.out]
        clear hA1 hY hXY hb1 rd1 ho1
        go_wp2_with fail
        refine (skipE SMa.out (Below.refl _ _) a2Key ((M.skN a2Key 64 : Nat) : Int) rfl).mono ?_
        rintro r wb ⟨rfl, sm, kx⟩
        have SMb := Lib.hid sm
        have KXb := Lib.hid kx
        have RDb := Lib.hid (rd_keep RD1.out fun a ea => kx.block a.block (HYA.out a ea))
        have yb := (World.cell?_of_block (a := ⟨xb, 1, none⟩) (kx.block xb (HXY.out _ hXx))).trans ya
        have HYb := Lib.hid yb
        rw [HKK.out]
        clear sm kx ya yb RD1
        go_wp2_with fail
        refine (listS SMb.out).mono ?_
        rintro r wc ⟨⟨A2, c2, rfl, rd2, _⟩, hb2⟩
        have RDc := Lib.hid (rd_keep RDb.out fun a ea => hb2.block a.block (SMb.out.lt _ (HYA.out a ea)))
        have RD2 := Lib.hid rd2
        have HB2 := Lib.hid hb2
        have yc := (hb2.cell (p := ⟨xb, 1, none⟩) (SMb.out.lt xb (HXY.out _ hXx))).trans HYb.out
        have HYc := Lib.hid yc
        rw [HLA.out]
        have hYl := SMb.out.lt
        have ARc := Lib.hid (AR.out.keep XP (fun i hi => (HB2.out.block i (hYl i (HXY.out i hi))).trans ((KXb.out.block i (HXY.out i hi)).trans (HB1.out.block i (LTX.out i hi)))))
        have KXc : Kx X wa wb := ⟨KXb.out.os, KXb.out.tape, KXb.out.output, KXb.out.size, fun i hi => KXb.out.block i (HXY.out i hi)⟩
        have KPc := Lib.hid (((KP.out.below HB1.out LTX.out).kx KXc).below HB2.out (fun i hi => hYl i (HXY.out i hi)))
        have SMc := Lib.hid ((SMb.out.below HB2.out).less HXY.out)
        have HASC := Lib.hid (fun v (hv : v < 64) (hs : S.testBit v = true) => fd_asc FDn.out (gp_drop HG.out n0) hv hs)
        have FDc := Lib.hid (FDn.out.skip (gp_drop HG.out n0) a2Key)
        clear hb2 rd2 yc RDb hYl KXc AR KP SM SMa SMb KXb TZ FDn
        go_wp2_with fail
        go_loopw [20] (fun s wz => ∃ j : Nat, s = .int .i64 j ∧ j ≤ lb ∧ Below wc.heap.size wc wz) (fun s _ => (lb - intOf s).toNat)
        case atStart => exact ⟨0, rfl, Nat.zero_le _, Below.refl _ _⟩
        case round =>
          obtain ⟨j, rfl, hj, bz⟩ := hrel
          have BZ := Lib.hid bz
          clear bz
          by_cases hjl : j < lb
          · have hcase : j < kk ∨ ∃ t, j = kk + t := by
              by_cases h : j < kk
              · exact .inl h
              · exact .inr ⟨j - kk, by omega⟩
            have u0 : decide ((j : Int) < (lb : Int)) = true := decide_eq_true (by omega)
            have j0 : (j : Int) < (lb : Int) := by omega
            have kz := (BZ.out.cell (p := ⟨xb, 1, none⟩) (World.block_lt_of_cell? wc _ HYc.out)).trans HYc.out
            obtain ⟨x, hx⟩ : ∃ x, M.list[j]? = some x := ⟨_, List.getElem?_eq_getElem (by rw [HLB.out]; exact hjl)⟩
            obtain ⟨gb, go, eb, x0, x1⟩ := (RDc.out.below BZ.out) j x hx
            rw [HL.out] at hx
            rcases hcase with h | ⟨t, rfl⟩
            · rw [List.getElem?_append_left (by rw [HLN.out]; exact h)] at hx
              have hk := HL1.out x (List.mem_of_getElem? hx)
              have u1 : decide (x.1 < a2Key) = true := decide_eq_true hk
              have u2 : decide ((j : Int) < (kk : Int)) = true := decide_eq_true (by omega)
              have u3 : decide ((kk : Int) ≤ (j : Int)) = false := decide_eq_false (by omega)
              have u4 : decide (kk ≤ j) = false := decide_eq_false (by omega)
              clear hk hx
              subst eb
              go_wp2_with fail
              go_quiet (fail)
              go_wp2_with fail
              go_roundw
              case rel => exact ⟨j + 1, by go_num, by omega, below_drewN BZ.out _⟩
              case measure => simp [intOf]; omega
            · rw [List.getElem?_append_right (by rw [HLN.out]; omega), HLN.out, show kk + t - kk = t by omega] at hx
              have hk := HL2.out x (List.mem_of_getElem? hx)
              have htl : t < la := by have := (List.getElem?_eq_some_iff.1 hx).1; rw [HLA.out] at this; exact this
              obtain ⟨gc, gd, ec, w0', w1'⟩ := (RD2.out.below BZ.out) t x hx
              have u1 : decide (x.1 < a2Key) = false := decide_eq_false (by omega)
              have u2 : decide (((kk + t : Nat) : Int) < (kk : Int)) = false := decide_eq_false (by omega)
              have u3 : decide ((kk : Int) ≤ ((kk + t : Nat) : Int)) = true := decide_eq_true (by omega)
              have u4 : decide (kk ≤ kk + t) = true := decide_eq_true (by omega)
              have u5 : decide (kk + t < kk) = false := decide_eq_false (by omega)
              obtain ⟨jj, hjj⟩ : ∃ jj, kk + t = jj := ⟨_, rfl⟩
              rw [hjj] at u0 u2 u3 u4 u5 j0 x0 x1 hjl ⊢
              have hsub : (jj : Int) - (kk : Int) = (t : Int) := by omega
              have htl' : (t : Int) < (la : Int) := by omega
              have HJJ := Lib.hid hjj
              clear hk hx hjj hj
              subst eb
              subst ec
              go_wp2_with fail
              go_quiet (fail)
              go_wp2_with fail
              go_roundw
              case rel => exact ⟨jj + 1, by go_num, by omega, below_drewN BZ.out _⟩
              case measure => simp [intOf]; omega
          · obtain rfl : j = lb := by omega
            have u0 : decide ((j : Int) < (j : Int)) = false := decide_eq_false (by omega)
            have kz := (BZ.out.cell (p := ⟨xb, 1, none⟩) (World.block_lt_of_cell? wc _ HYc.out)).trans HYc.out
            obtain ⟨wd, hwd⟩ : ∃ wd, wd = wr := ⟨_, rfl⟩
            rw [← hwd] at BZ kz ⊢
            clear hwd
            have SMd := Lib.hid (SMc.out.below BZ.out)
            have LTc := SMc.out.lt
            have ARd := Lib.hid (ARc.out.keep XP (fun i hi => BZ.out.block i (LTc i hi)))
            have KPd := Lib.hid (KPc.out.below BZ.out LTc)
            clear SMc ARc KPc LTc RDc RD2
            go_wp2_with fail
            refine (skipE SMd.out (Below.refl _ _) (a2Key / 2) 0 (by rw [Mg.skN_again (by omega)]; rfl)).mono ?_
            rintro r we ⟨rfl, sm, kx⟩
            rw [Mg.skip_again (by omega)] at sm
            have SMe := Lib.hid sm
            have ARe := Lib.hid (ARd.out.keep XP (fun i hi => kx.block i hi))
            have KPe := Lib.hid (KPd.out.kx kx)
            clear sm kx SMd ARd KPd kz
            generalize M.skipped a2Key = M2 at *
            go_wp2_with fail
            go_loopw [23] (fun s wf => ∃ (v : Nat) (Q : Nat → List Pr), s = .int .i64 v ∧ v ≤ 64 ∧ (∀ u, u < 64 → S.testBit u = true → u < v → Q u = pastR a2Key (R u)) ∧ (∀ u, v ≤ u → Q u = R u) ∧ Sm X wf W.heap.size M2 ∧ Ar X wf pb Q ∧ Kp X pb W3 wf) (fun s _ => (64 - intOf s).toNat)
            case atStart => exact ⟨0, R, rfl, Nat.zero_le _, fun u _ _ h => absurd h (Nat.not_lt_zero _), fun _ _ => rfl, SMe.out, ARe.out, KPe.out⟩
            case round =>
              obtain ⟨v, Q, rfl, hv, hq1, hq2, sm, ar, kp⟩ := hrel
              have SMf := Lib.hid sm
              have ARf := Lib.hid ar
              have KPf := Lib.hid kp
              have HQ1 := Lib.hid hq1
              have HQ2 := Lib.hid hq2
              have hqv := hq2 v (Nat.le_refl _)
              clear sm ar kp hq1 hq2 SMe ARe KPe
              by_cases hv64 : v < 64
              · have v0 : decide ((v : Int) < 64) = true := decide_eq_true (by omega)
                have v1 : (v : Int) < 64 := by omega
                have AR0 := Lib.hid (show Ar X wr pb (upd Q v (R v)) by rw [upd_self hqv]; exact ARf.out)
                have HASv := Lib.hid (fun hs : S.testBit v = true => HASC.out v hv64 hs)
                clear hqv
                go_wp2_with fail
                go_loopg [] (R v).length (fun g wy => ∃ r : List Pr, r.length = g ∧ (S.testBit v = true → pastR a2Key r = pastR a2Key (R v) ∧ r.Pairwise fun a b => a.1 < b.1) ∧ Sm X wy W.heap.size M2 ∧ Ar X wy pb (upd Q v r) ∧ Kp X pb W3 wy)
                case atStart => exact ⟨R v, rfl, fun hs => ⟨rfl, HASv.out hs⟩, SMf.out, AR0.out, KPf.out⟩
                case round =>
                  clear SMf ARf KPf AR0
                  obtain ⟨r, hrl, hrs, sm, ar, kp⟩ := hrel
                  obtain ⟨Av, cv, ca, hle, rd, hA⟩ := ar.c v hv64
                  have fa := ar.f v hv64
                  have kz := (World.cell?_of_block (a := ⟨xb, 1, none⟩) (kp.block xb hXx hxp)).trans HY1.out
                  rw [upd_at] at ca hle rd
                  have SMf := Lib.hid sm
                  have ARf := Lib.hid ar
                  have KPf := Lib.hid kp
                  have HRS := Lib.hid hrs
                  have HRD := Lib.hid rd
                  have HAV := Lib.hid hA
                  have HRG := Lib.hid hrl
                  clear sm ar kp hrs rd hA hrl
                  cases r with
                  | nil =>
                    have ca : wr.cell? ⟨pb, v, none⟩ = some (.slice Av 0 cv) := ca
                    have END := Lib.hid (fun hs : S.testBit v = true => show ([] : List Pr) = pastR a2Key (R v) from (HRS.out hs).1)
                    go_wp2_with fail
                    go_quiet (fail)
                    go_wp2_with fail
                    go_roundw
                    case rel => exact ⟨v + 1, upd Q v [], by go_num, by omega, fun u hu hs hlt => (by
                      by_cases e : u = v
                      · subst e; rw [upd_at]; exact END.out hs
                      · rw [upd_ne e]; exact HQ1.out u hu hs (by omega)), fun u hu => (by rw [upd_ne (by omega)]; exact HQ2.out u (by omega)), SMf.out.below (below_drewN (Below.refl _ wr) nq), ARf.out.keep XP (fun i hi => rfl), KPf.out.below (below_drewN (Below.refl _ wr) nq) SMf.out.lt⟩
                    case measure => simp [intOf]; omega
                  | cons x r =>
                    have ca : wr.cell? ⟨pb, v, none⟩ = some (.slice Av (r.length + 1) cv) := ca
                    obtain ⟨ab2, ao2, rfl, cx0, cx1⟩ := HRD.out 0 x rfl
                    simp only [Nat.zero_mul, Nat.add_zero] at cx0 cx1
                    have z0 : (0 : Int) < ((r.length : Int) + 1) := by omega
                    have g0 : decide ((0 : Int) < ((r.length : Int) + 1)) = true := decide_eq_true z0
                    have hXa := HAV.out _ rfl
                    clear cx1
                    by_cases hk : x.1 < a2Key
                    · have g1 : decide (x.1 < a2Key) = true := decide_eq_true hk
                      obtain ⟨RA, RC, hra, hrc, hrb, RUN⟩ := tail_run ab2 ao2 r.length cv (by simpa using hle)
                      have HRS2 := Lib.hid (show S.testBit v = true → pastR a2Key r = pastR a2Key (R v) ∧ r.Pairwise fun a b => a.1 < b.1 from fun hs => ⟨by rw [← (HRS.out hs).1, Mg.pastR_cons_no hk], (List.pairwise_cons.1 (HRS.out hs).2).2⟩)
                      clear hk
                      go_wp2_with fail
                      go_quiet (fail)
                      go_wp2_with fail
                      go_roundg r.length
                      case measure => rw [← HRG.out]; simp
                      case rel => exact ⟨r, rfl, HRS2.out, SMf.out.other XP ((Mg.Chg.of_below (below_drewN (Below.refl _ wr) nq)).set _ _), by
                        rw [← upd_upd Q v (x :: r) r]
                        exact Ar.set (show Ar X (wr.drewN nq) pb (upd Q v (x :: r)) from ARf.out.keep XP (fun i hi => rfl)) hv64 hrc (rd_tail (show Om.Rd (wr.drewN nq) (some ⟨ab2, ao2, none⟩) (x :: r) from HRD.out) hra) (fun a e => ⟨by rw [hrb a e]; exact hXa.1, by rw [hrb a e]; exact hXa.2⟩), Kp.set (show Kp X pb W3 (wr.drewN nq) from KPf.out.below (below_drewN (Below.refl _ wr) nq) SMf.out.lt) _ _⟩
                    · have g1 : decide (x.1 < a2Key) = false := decide_eq_false hk
                      have END := Lib.hid (fun hs : S.testBit v = true => show x :: r = pastR a2Key (R v) from by rw [← (HRS.out hs).1, past_at (HRS.out hs).2 hk])
                      clear hk
                      go_wp2_with fail
                      go_quiet (fail)
                      go_wp2_with fail
                      go_roundw
                      case rel => exact ⟨v + 1, upd Q v (x :: r), by go_num, by omega, fun u hu hs hlt => (by
                        by_cases e : u = v
                        · subst e; rw [upd_at]; exact END.out hs
                        · rw [upd_ne e]; exact HQ1.out u hu hs (by omega)), fun u hu => (by rw [upd_ne (by omega)]; exact HQ2.out u (by omega)), SMf.out.below (below_drewN (Below.refl _ wr) nq), ARf.out.keep XP (fun i hi => rfl), KPf.out.below (below_drewN (Below.refl _ wr) nq) SMf.out.lt⟩
                      case measure => simp [intOf]; omega
              · have hv6 : v = 64 := by omega
                have v0 : decide ((v : Int) < 64) = false := decide_eq_false (by omega)
                have FD0 := Lib.hid (fd_congr FDc.out (fun u hu hs => HQ1.out u hu hs (by omega)))
                clear hqv hv6 hv64
                go_wp2_with fail
                go_loopw [24] (fun s wf => ∃ (i : Nat) (M : Mg.Mg) (R : Nat → List Pr), s = .int .i64 i ∧ i ≤ 100 ∧ Sm X wf W.heap.size M ∧ Mg.Fd S M (past a2Key (all.drop i)) R ∧ Ar X wf pb R ∧ Kp X pb W3 wf) (fun s _ => (all.length - intOf s).toNat)
                case atStart => exact ⟨n0, M2, Q, rfl, by omega, SMf.out, FD0.out, ARf.out, KPf.out⟩
                case round =>
                  clear SMf ARf KPf FD0 HQ1 HQ2 FDc
                  obtain ⟨i, M, R, rfl, hi, sm, fd, ar, kp⟩ := hrel
                  have kz := (World.cell?_of_block (a := ⟨xb, 1, none⟩) (kp.block xb hXx hxp)).trans HY1.out
                  have SM := Lib.hid sm
                  have FD := Lib.hid fd
                  have AR := Lib.hid ar
                  have KP := Lib.hid kp
                  clear sm fd ar kp
                  by_cases hlt : i < all.length
                  · have i0 : (i : Int) < (all.length : Int) := by omega
                    have u0 : decide ((i : Int) < (all.length : Int)) = true := decide_eq_true (by omega)
                    obtain ⟨y, hy⟩ : ∃ y, all[i]? = some y := ⟨_, List.getElem?_eq_getElem hlt⟩
                    have hd := drop_at hy
                    have py := HG.out.mem y (List.mem_of_getElem? hy)
                    obtain ⟨ab, ao, eA, q0, q1, q2⟩ := (rdp_keep RD3.out fun a e => KP.out.block a.block (ALX.out a e).1 (ALX.out a e).2) i y hy
                    have hab := ALX.out _ eA
                    have hXa : X ab := hab.1
                    have hab2 : ab ≠ pb := hab.2
                    subst eA
                    obtain ⟨yl, yk, yv⟩ := y
                    obtain ⟨v, rfl⟩ : ∃ v : Nat, yl = v := ⟨yl.toNat, by have h : 0 ≤ yl := py.l0; omega⟩
                    have q1 : wr.cell? ⟨ab, ao + i * 3 + 1, none⟩ = some (.int .u64 yk) := q1
                    have q2 : wr.cell? ⟨ab, ao + i * 3 + 2, none⟩ = some (.int .u64 yv) := q2
                    have fd := FD.out
                    rw [hd] at fd
                    have hgp := gp_drop HG.out i
                    rw [hd] at hgp
                    clear hd hy hab py q0
                    by_cases hk : yk < a2Key
                    · have g1 : decide (yk < a2Key) = true := decide_eq_true hk
                      rw [Mg.past_cons_no (show (⟨(v : Int), (yk, yv)⟩ : Pt).x.1 < a2Key from hk)] at fd
                      have FD2 := Lib.hid fd
                      clear fd hgp hk FD
                      go_wp2_with fail
                      go_quiet (fail)
                      go_wp2_with fail
                      go_roundw
                      case rel => exact ⟨i + 1, M, R, by go_num, by omega, SM.out.below (below_drewN (Below.refl _ wr) nq), FD2.out, AR.out.keep XP (fun i hi => rfl), KP.out.below (below_drewN (Below.refl _ wr) nq) SM.out.lt⟩
                      case measure => simp [intOf]; omega
                    · have g1 : decide (yk < a2Key) = false := decide_eq_false hk
                      have hpc := Mg.past_cons_yes (K := a2Key) (y := ⟨(v : Int), (yk, yv)⟩) (all := all.drop (i + 1)) hk
                      rw [hpc] at fd
                      have hgp2 := Mg.gp_past hgp a2Key
                      rw [hpc] at hgp2
                      have GP := Lib.hid hgp2
                      have FD2 := Lib.hid fd
                      clear fd hgp hgp2 hpc hk FD
                      go_wp2_with fail
                      go_quiet (fail)
                      have BQ := below_drewN (Below.refl wr.heap.size wr) nq
                      have SM := Lib.hid (SM.out.below BQ)
                      have AR := Lib.hid (show Ar X (wr.drewN nq) pb R from AR.out.keep XP (fun i hi => rfl))
                      have KP := Lib.hid (KP.out.below BQ (fun i hi => SM.out.lt i hi))
                      have q1 : (wr.drewN nq).cell? ⟨ab, ao + i * 3 + 1, none⟩ = some (.int .u64 yk) := q1
                      have q2 : (wr.drewN nq).cell? ⟨ab, ao + i * 3 + 2, none⟩ = some (.int .u64 yv) := q2
                      have kz : (wr.drewN nq).cell? ⟨xb, 1, none⟩ = some (.int .u64 a2Key) := kz
                      have TZ := KP.out.tz X0 hp0 TZ3.out
                      clear BQ
                      generalize wr.drewN nq = wq at *
                      have FE := Lib.hid (feed_any X W.heap.size pb S M _ R wq SM.out X0 XP hp0 AR.out FD2.out GP.out TZ)
                      clear TZ kz
                      go_wp2_with fail
                      refine FE.out.mono ?_
                      rintro r w4 ⟨rfl, N, R', sm, hm, fd, ar, kp⟩
                      have hh := fd.head GP.out hm sm.inv
                      have FD5 := Lib.hid (fd.pop GP.out hm sm.inv)
                      simp only [Int.toNat_natCast] at hh FD5
                      have SM4 := Lib.hid sm
                      have AR4 := Lib.hid ar
                      have KP4 := Lib.hid kp
                      have HM := Lib.hid hm
                      have HH := Lib.hid hh
                      have r1 := (World.cell?_of_block (a := ⟨ab, ao + i * 3 + 1, none⟩) (kp.block ab hXa hab2)).trans q1
                      have r2 := (World.cell?_of_block (a := ⟨ab, ao + i * 3 + 2, none⟩) (kp.block ab hXa hab2)).trans q2
                      clear sm hm fd ar kp hh q1 q2 AR SM FE
                      go_wp2_with fail
                      refine (popE SM4.out (Below.refl _ _) (popT (yk, yv) (v : Int) true 0) (N.popped v) (fun r N' hp => by
                        have h := pops_least HM.out v HH.out.1 HH.out.2.1 (fun u hu hhu hne => by rw [HH.out.2.2.1]; exact HH.out.2.2.2 u hu hhu hne) r N' hp
                        rw [HH.out.2.2.1] at h; exact h)).mono ?_
                      rintro r w6 ⟨rfl, sm, kx⟩
                      have SM6 := Lib.hid sm
                      have KX6 := Lib.hid kx
                      have m1 := (World.cell?_of_block (a := ⟨ab, ao + i * 3 + 1, none⟩) (kx.block ab hXa)).trans r1
                      have m2 := (World.cell?_of_block (a := ⟨ab, ao + i * 3 + 2, none⟩) (kx.block ab hXa)).trans r2
                      have habl := Nat.lt_of_lt_of_le (SM4.out.lt ab hXa) kx.size
                      clear sm kx r1 r2
                      unfold popT
                      go_wp2_with fail
                      have BA := bel_alloc (Below.refl w6.heap.size w6) (.cells #[.int .u64 yk, .int .u64 yv] 39)
                      have p0 : (w6.alloc (.cells #[.int .u64 yk, .int .u64 yv] 39)).cell? ⟨w6.heap.size, 0, none⟩ = some (.int .u64 yk) := by simp
                      have p1 : (w6.alloc (.cells #[.int .u64 yk, .int .u64 yv] 39)).cell? ⟨w6.heap.size, 1, none⟩ = some (.int .u64 yv) := by simp
                      replace m1 := (BA.cell (p := ⟨ab, ao + i * 3 + 1, none⟩) habl).trans m1
                      replace m2 := (BA.cell (p := ⟨ab, ao + i * 3 + 2, none⟩) habl).trans m2
                      have HBA := Lib.hid BA
                      clear BA habl
                      generalize w6.alloc (.cells #[.int .u64 yk, .int .u64 yv] 39) = W7 at *
                      generalize w6.heap.size = pb7 at p0 p1 ⊢
                      go_quiet (fail)
                      go_wp2_with fail
                      go_roundw
                      case rel =>
                        have BD := below_drewN HBA.out nq
                        exact ⟨i + 1, N.popped v, R', by go_num, by omega, SM6.out.below BD, FD5.out, AR4.out.keep XP (fun i hi => (BD.block i (SM6.out.lt i hi)).trans (KX6.out.block i hi)), ((KP.out.trans KP4.out).kx KX6.out).below BD SM6.out.lt⟩
                      case measure => simp [intOf]; omega
                  · have u0 : decide ((i : Int) < (all.length : Int)) = false := decide_eq_false (by omega)
                    have fd := FD.out
                    rw [List.drop_eq_nil_of_le (show all.length ≤ i by omega)] at fd
                    have TZ := KP.out.tz X0 hp0 TZ3.out
                    have FE := Lib.hid (feed_any X W.heap.size pb S M [] R wr SM.out X0 XP hp0 AR.out fd (Gp.nil S) TZ)
                    clear fd TZ FD
                    go_wp2_with fail
                    refine FE.out.mono ?_
                    rintro r w4 ⟨rfl, N, R', sm, hm, fd, ar, kp⟩
                    have hno := fd.none sm.inv
                    have hll0 := Mg.list_none sm.inv hno
                    have HLL := Lib.hid hll0
                    have SM4 := Lib.hid sm
                    have KP4 := Lib.hid (KP.out.trans kp)
                    clear sm hm fd ar kp hno hll0
                    go_wp2_with fail
                    refine (listS SM4.out).mono ?_
                    rw [HLL.out]
                    rintro r w5 ⟨⟨A5, c5, rfl, _, _⟩, hb5⟩
                    have BF := Lib.hid (BB.out.trans (kp_below (KP4.out.below hb5 SM4.out.lt) HXB.out hpw))
                    clear hb5
                    go_wp2_with fail
                    refine (known_any _ (TW.out.belowN hw0W BF.out)).mono ?_
                    rintro r w6 ⟨rfl, hb⟩
                    have BG := Lib.hid (BF.out.trans (hb.mono BF.out.size))
                    clear hb
                    go_wp2_with fail
                    go_ret
                    exact ⟨rfl, HBX.out.trans (BG.out.mono HBX.out.size)⟩
    · have t1 : decide ((k : Int) < (n0 : Int)) = false := decide_eq_false (by omega)
      have hdr : all.drop k = all.drop n0 := by rw [show k = n0 by omega]
      have FDn := Lib.hid (show Mg.Fd S M (all.drop n0) R by rw [← hdr]; exact FD.out)
      have y1 := (World.cell?_of_block (a := ⟨xb, 1, none⟩) (KP.out.block xb hXx hxp)).trans HY1.out
      have HYr := Lib.hid y1
      have hbl : M.list.length ≤ 64 := Mg.list_len M
      have hll : (M.skipped a2Key).list.length ≤ 64 := Mg.list_len _
      obtain ⟨L1, hl, hL1, hL2, hlen⟩ := Mg.list_skip SM.out.inv a2Key
      have hsum := congrArg List.length hl
      rw [List.length_append, hlen] at hsum
      obtain ⟨kk, hkk⟩ : ∃ kk, M.skN a2Key 64 = kk := ⟨_, rfl⟩
      obtain ⟨lb, hlb⟩ : ∃ lb, M.list.length = lb := ⟨_, rfl⟩
      obtain ⟨la, hla⟩ : ∃ la, (M.skipped a2Key).list.length = la := ⟨_, rfl⟩
      rw [hkk] at hsum hlen
      rw [hlb] at hsum hbl
      rw [hla] at hsum hll
      have HKK := Lib.hid hkk
      have HLB := Lib.hid hlb
      have HLA := Lib.hid hla
      have t3 : decide ((kk : Int) < 0) = false := decide_eq_false (by omega)
      have t4 : ((la : Int) + (kk : Int) != (lb : Int)) = false := by simp; omega
      have hkb : kk ≤ 64 := by omega
      have HSUM := Lib.hid hsum
      have HL := Lib.hid hl
      have HL1 := Lib.hid hL1
      have HL2 := Lib.hid hL2
      have HLN := Lib.hid hlen
      clear FD hdr y1 hl hL1 hL2 hlen hkk hlb hla hsum
      go_wp2_with fail
      refine (listS SM.out).mono ?_
      rintro r wa ⟨⟨A1, c1, rfl, rd1, ho1⟩, hb1⟩
      have hA1 : ∀ a, A1 = some a → wr.heap.size ≤ a.block ∧ a.block < wa.heap.size := fun a ea => by
        obtain ⟨_, A, c, e, _, _, hf⟩ := Om.row_form ho1
        injection e with e1 e2 e3
        have := hf a (by rw [← e1]; exact ea)
        exact ⟨this.1, this.2.1⟩
      obtain ⟨Y, hY⟩ : ∃ Y : Nat → Prop, Y = fun i => X i ∨ (wr.heap.size ≤ i ∧ i < wa.heap.size) := ⟨_, rfl⟩
      have hXY : ∀ i, X i → Y i := fun i hi => by rw [hY]; exact .inl hi
      have SMa := Lib.hid (show Sm Y wa W.heap.size M from SM.out.more hb1 fun i hi => by rw [hY] at hi; exact hi)
      have HYA := Lib.hid (show ∀ a, A1 = some a → Y a.block from fun a ea => by rw [hY]; exact .inr (hA1 a ea))
      have LTX := Lib.hid SM.out.lt
      have HXY := Lib.hid hXY
      have HB1 := Lib.hid hb1
      have RD1 := Lib.hid rd1
      have ya := (hb1.cell (p := ⟨xb, 1, none⟩) (SM.out.lt xb hXx)).trans HYr.out
      rw [HLB.out]
      clear hA1 hY hXY hb1 rd1 ho1
      go_wp2_with fail
      refine (skipE SMa.out (Below.refl _ _) a2Key ((M.skN a2Key 64 : Nat) : Int) rfl).mono ?_
      rintro r wb ⟨rfl, sm, kx⟩
      have SMb := Lib.hid sm
      have KXb := Lib.hid kx
      have RDb := Lib.hid (rd_keep RD1.out fun a ea => kx.block a.block (HYA.out a ea))
      have yb := (World.cell?_of_block (a := ⟨xb, 1, none⟩) (kx.block xb (HXY.out _ hXx))).trans ya
      have HYb := Lib.hid yb
      rw [HKK.out]
      clear sm kx ya yb RD1
      go_wp2_with fail
      refine (listS SMb.out).mono ?_
      rintro r wc ⟨⟨A2, c2, rfl, rd2, _⟩, hb2⟩
      have RDc := Lib.hid (rd_keep RDb.out fun a ea => hb2.block a.block (SMb.out.lt _ (HYA.out a ea)))
      have RD2 := Lib.hid rd2
      have HB2 := Lib.hid hb2
      have yc := (hb2.cell (p := ⟨xb, 1, none⟩) (SMb.out.lt xb (HXY.out _ hXx))).trans HYb.out
      have HYc := Lib.hid yc
      rw [HLA.out]
      have hYl := SMb.out.lt
      have ARc := Lib.hid (AR.out.keep XP (fun i hi => (HB2.out.block i (hYl i (HXY.out i hi))).trans ((KXb.out.block i (HXY.out i hi)).trans (HB1.out.block i (LTX.out i hi)))))
      have KXc : Kx X wa wb := ⟨KXb.out.os, KXb.out.tape, KXb.out.output, KXb.out.size, fun i hi => KXb.out.block i (HXY.out i hi)⟩
      have KPc := Lib.hid (((KP.out.below HB1.out LTX.out).kx KXc).below HB2.out (fun i hi => hYl i (HXY.out i hi)))
      have SMc := Lib.hid ((SMb.out.below HB2.out).less HXY.out)
      have HASC := Lib.hid (fun v (hv : v < 64) (hs : S.testBit v = true) => fd_asc FDn.out (gp_drop HG.out n0) hv hs)
      have FDc := Lib.hid (FDn.out.skip (gp_drop HG.out n0) a2Key)
      clear hb2 rd2 yc RDb hYl KXc AR KP SM SMa SMb KXb TZ FDn
      go_wp2_with fail
      go_loopw [20] (fun s wz => ∃ j : Nat, s = .int .i64 j ∧ j ≤ lb ∧ Below wc.heap.size wc wz) (fun s _ => (lb - intOf s).toNat)
      case atStart => exact ⟨0, rfl, Nat.zero_le _, Below.refl _ _⟩
      case round =>
        obtain ⟨j, rfl, hj, bz⟩ := hrel
        have BZ := Lib.hid bz
        clear bz
        by_cases hjl : j < lb
        · have hcase : j < kk ∨ ∃ t, j = kk + t := by
            by_cases h : j < kk
            · exact .inl h
            · exact .inr ⟨j - kk, by omega⟩
          have u0 : decide ((j : Int) < (lb : Int)) = true := decide_eq_true (by omega)
          have j0 : (j : Int) < (lb : Int) := by omega
          have kz := (BZ.out.cell (p := ⟨xb, 1, none⟩) (World.block_lt_of_cell? wc _ HYc.out)).trans HYc.out
          obtain ⟨x, hx⟩ : ∃ x, M.list[j]? = some x := ⟨_, List.getElem?_eq_getElem (by rw [HLB.out]; exact hjl)⟩
          obtain ⟨gb, go, eb, x0, x1⟩ := (RDc.out.below BZ.out) j x hx
          rw [HL.out] at hx
          rcases hcase with h | ⟨t, rfl⟩
          · rw [List.getElem?_append_left (by rw [HLN.out]; exact h)] at hx
            have hk := HL1.out x (List.mem_of_getElem? hx)
            have u1 : decide (x.1 < a2Key) = true := decide_eq_true hk
            have u2 : decide ((j : Int) < (kk : Int)) = true := decide_eq_true (by omega)
            have u3 : decide ((kk : Int) ≤ (j : Int)) = false := decide_eq_false (by omega)
            have u4 : decide (kk ≤ j) = false := decide_eq_false (by omega)
            clear hk hx
            subst eb
            go_wp2_with fail
            go_quiet (fail)
            go_wp2_with fail
            go_roundw
            case rel => exact ⟨j + 1, by go_num, by omega, below_drewN BZ.out _⟩
            case measure => simp [intOf]; omega
          · rw [List.getElem?_append_right (by rw [HLN.out]; omega), HLN.out, show kk + t - kk = t by omega] at hx
            have hk := HL2.out x (List.mem_of_getElem? hx)
            have htl : t < la := by have := (List.getElem?_eq_some_iff.1 hx).1; rw [HLA.out] at this; exact this
            obtain ⟨gc, gd, ec, w0', w1'⟩ := (RD2.out.below BZ.out) t x hx
            have u1 : decide (x.1 < a2Key) = false := decide_eq_false (by omega)
            have u2 : decide (((kk + t : Nat) : Int) < (kk : Int)) = false := decide_eq_false (by omega)
            have u3 : decide ((kk : Int) ≤ ((kk + t : Nat) : Int)) = true := decide_eq_true (by omega)
            have u4 : decide (kk ≤ kk + t) = true := decide_eq_true (by omega)
            have u5 : decide (kk + t < kk) = false := decide_eq_false (by omega)
            obtain ⟨jj, hjj⟩ : ∃ jj, kk + t = jj := ⟨_, rfl⟩
            rw [hjj] at u0 u2 u3 u4 u5 j0 x0 x1 hjl ⊢
            have hsub : (jj : Int) - (kk : Int) = (t : Int) := by omega
            have htl' : (t : Int) < (la : Int) := by omega
            have HJJ := Lib.hid hjj
            clear hk hx hjj hj
            subst eb
            subst ec
            go_wp2_with fail
            go_quiet (fail)
            go_wp2_with fail
            go_roundw
            case rel => exact ⟨jj + 1, by go_num, by omega, below_drewN BZ.out _⟩
            case measure => simp [intOf]; omega
        · obtain rfl : j = lb := by omega
          have u0 : decide ((j : Int) < (j : Int)) = false := decide_eq_false (by omega)
          have kz := (BZ.out.cell (p := ⟨xb, 1, none⟩) (World.block_lt_of_cell? wc _ HYc.out)).trans HYc.out
          obtain ⟨wd, hwd⟩ : ∃ wd, wd = wr := ⟨_, rfl⟩
          rw [← hwd] at BZ kz ⊢
          clear hwd
          have SMd := Lib.hid (SMc.out.below BZ.out)
          have LTc := SMc.out.lt
          have ARd := Lib.hid (ARc.out.keep XP (fun i hi => BZ.out.block i (LTc i hi)))
          have KPd := Lib.hid (KPc.out.below BZ.out LTc)
          clear SMc ARc KPc LTc RDc RD2
          go_wp2_with fail
          refine (skipE SMd.out (Below.refl _ _) (a2Key / 2) 0 (by rw [Mg.skN_again (by omega)]; rfl)).mono ?_
          rintro r we ⟨rfl, sm, kx⟩
          rw [Mg.skip_again (by omega)] at sm
          have SMe := Lib.hid sm
          have ARe := Lib.hid (ARd.out.keep XP (fun i hi => kx.block i hi))
          have KPe := Lib.hid (KPd.out.kx kx)
          clear sm kx SMd ARd KPd kz
          generalize M.skipped a2Key = M2 at *
          go_wp2_with fail
          go_loopw [23] (fun s wf => ∃ (v : Nat) (Q : Nat → List Pr), s = .int .i64 v ∧ v ≤ 64 ∧ (∀ u, u < 64 → S.testBit u = true → u < v → Q u = pastR a2Key (R u)) ∧ (∀ u, v ≤ u → Q u = R u) ∧ Sm X wf W.heap.size M2 ∧ Ar X wf pb Q ∧ Kp X pb W3 wf) (fun s _ => (64 - intOf s).toNat)
          case atStart => exact ⟨0, R, rfl, Nat.zero_le _, fun u _ _ h => absurd h (Nat.not_lt_zero _), fun _ _ => rfl, SMe.out, ARe.out, KPe.out⟩
          case round =>
            obtain ⟨v, Q, rfl, hv, hq1, hq2, sm, ar, kp⟩ := hrel
            have SMf := Lib.hid sm
            have ARf := Lib.hid ar
            have KPf := Lib.hid kp
            have HQ1 := Lib.hid hq1
            have HQ2 := Lib.hid hq2
            have hqv := hq2 v (Nat.le_refl _)
            clear sm ar kp hq1 hq2 SMe ARe KPe
            by_cases hv64 : v < 64
            · have v0 : decide ((v : Int) < 64) = true := decide_eq_true (by omega)
              have v1 : (v : Int) < 64 := by omega
              have AR0 := Lib.hid (show Ar X wr pb (upd Q v (R v)) by rw [upd_self hqv]; exact ARf.out)
              have HASv := Lib.hid (fun hs : S.testBit v = true => HASC.out v hv64 hs)
              clear hqv
              go_wp2_with fail
              go_loopg [] (R v).length (fun g wy => ∃ r : List Pr, r.length = g ∧ (S.testBit v = true → pastR a2Key r = pastR a2Key (R v) ∧ r.Pairwise fun a b => a.1 < b.1) ∧ Sm X wy W.heap.size M2 ∧ Ar X wy pb (upd Q v r) ∧ Kp X pb W3 wy)
              case atStart => exact ⟨R v, rfl, fun hs => ⟨rfl, HASv.out hs⟩, SMf.out, AR0.out, KPf.out⟩
              case round =>
                clear SMf ARf KPf AR0
                obtain ⟨r, hrl, hrs, sm, ar, kp⟩ := hrel
                obtain ⟨Av, cv, ca, hle, rd, hA⟩ := ar.c v hv64
                have fa := ar.f v hv64
                have kz := (World.cell?_of_block (a := ⟨xb, 1, none⟩) (kp.block xb hXx hxp)).trans HY1.out
                rw [upd_at] at ca hle rd
                have SMf := Lib.hid sm
                have ARf := Lib.hid ar
                have KPf := Lib.hid kp
                have HRS := Lib.hid hrs
                have HRD := Lib.hid rd
                have HAV := Lib.hid hA
                have HRG := Lib.hid hrl
                clear sm ar kp hrs rd hA hrl
                cases r with
                | nil =>
                  have ca : wr.cell? ⟨pb, v, none⟩ = some (.slice Av 0 cv) := ca
                  have END := Lib.hid (fun hs : S.testBit v = true => show ([] : List Pr) = pastR a2Key (R v) from (HRS.out hs).1)
                  go_wp2_with fail
                  go_quiet (fail)
                  go_wp2_with fail
                  go_roundw
                  case rel => exact ⟨v + 1, upd Q v [], by go_num, by omega, fun u hu hs hlt => (by
                    by_cases e : u = v
                    · subst e; rw [upd_at]; exact END.out hs
                    · rw [upd_ne e]; exact HQ1.out u hu hs (by omega)), fun u hu => (by rw [upd_ne (by omega)]; exact HQ2.out u (by omega)), SMf.out.below (below_drewN (Below.refl _ wr) nq), ARf.out.keep XP (fun i hi => rfl), KPf.out.below (below_drewN (Below.refl _ wr) nq) SMf.out.lt⟩
                  case measure => simp [intOf]; omega
                | cons x r =>
                  have ca : wr.cell? ⟨pb, v, none⟩ = some (.slice Av (r.length + 1) cv) := ca
                  obtain ⟨ab2, ao2, rfl, cx0, cx1⟩ := HRD.out 0 x rfl
                  simp only [Nat.zero_mul, Nat.add_zero] at cx0 cx1
                  have z0 : (0 : Int) < ((r.length : Int) + 1) := by omega
                  have g0 : decide ((0 : Int) < ((r.length : Int) + 1)) = true := decide_eq_true z0
                  have hXa := HAV.out _ rfl
                  clear cx1
                  by_cases hk : x.1 < a2Key
                  · have g1 : decide (x.1 < a2Key) = true := decide_eq_true hk
                    obtain ⟨RA, RC, hra, hrc, hrb, RUN⟩ := tail_run ab2 ao2 r.length cv (by simpa using hle)
                    have HRS2 := Lib.hid (show S.testBit v = true → pastR a2Key r = pastR a2Key (R v) ∧ r.Pairwise fun a b => a.1 < b.1 from fun hs => ⟨by rw [← (HRS.out hs).1, Mg.pastR_cons_no hk], (List.pairwise_cons.1 (HRS.out hs).2).2⟩)
                    clear hk
                    go_wp2_with fail
                    go_quiet (fail)
                    go_wp2_with fail
                    go_roundg r.length
                    case measure => rw [← HRG.out]; simp
                    case rel => exact ⟨r, rfl, HRS2.out, SMf.out.other XP ((Mg.Chg.of_below (below_drewN (Below.refl _ wr) nq)).set _ _), by
                      rw [← upd_upd Q v (x :: r) r]
                      exact Ar.set (show Ar X (wr.drewN nq) pb (upd Q v (x :: r)) from ARf.out.keep XP (fun i hi => rfl)) hv64 hrc (rd_tail (show Om.Rd (wr.drewN nq) (some ⟨ab2, ao2, none⟩) (x :: r) from HRD.out) hra) (fun a e => ⟨by rw [hrb a e]; exact hXa.1, by rw [hrb a e]; exact hXa.2⟩), Kp.set (show Kp X pb W3 (wr.drewN nq) from KPf.out.below (below_drewN (Below.refl _ wr) nq) SMf.out.lt) _ _⟩
                  · have g1 : decide (x.1 < a2Key) = false := decide_eq_false hk
                    have END := Lib.hid (fun hs : S.testBit v = true => show x :: r = pastR a2Key (R v) from by rw [← (HRS.out hs).1, past_at (HRS.out hs).2 hk])
                    clear hk
                    go_wp2_with fail
                    go_quiet (fail)
                    go_wp2_with fail
                    go_roundw
                    case rel => exact ⟨v + 1, upd Q v (x :: r), by go_num, by omega, fun u hu hs hlt => (by
                      by_cases e : u = v
                      · subst e; rw [upd_at]; exact END.out hs
                      · rw [upd_ne e]; exact HQ1.out u hu hs (by omega)), fun u hu => (by rw [upd_ne (by omega)]; exact HQ2.out u (by omega)), SMf.out.below (below_drewN (Below.refl _ wr) nq), ARf.out.keep XP (fun i hi => rfl), KPf.out.below (below_drewN (Below.refl _ wr) nq) SMf.out.lt⟩
                    case measure => simp [intOf]; omega
            · have hv6 : v = 64 := by omega
              have v0 : decide ((v : Int) < 64) = false := decide_eq_false (by omega)
              have FD0 := Lib.hid (fd_congr FDc.out (fun u hu hs => HQ1.out u hu hs (by omega)))
              clear hqv hv6 hv64
              go_wp2_with fail
              go_loopw [24] (fun s wf => ∃ (i : Nat) (M : Mg.Mg) (R : Nat → List Pr), s = .int .i64 i ∧ i ≤ 100 ∧ Sm X wf W.heap.size M ∧ Mg.Fd S M (past a2Key (all.drop i)) R ∧ Ar X wf pb R ∧ Kp X pb W3 wf) (fun s _ => (all.length - intOf s).toNat)
              case atStart => exact ⟨n0, M2, Q, rfl, by omega, SMf.out, FD0.out, ARf.out, KPf.out⟩
              case round =>
                clear SMf ARf KPf FD0 HQ1 HQ2 FDc
                obtain ⟨i, M, R, rfl, hi, sm, fd, ar, kp⟩ := hrel
                have kz := (World.cell?_of_block (a := ⟨xb, 1, none⟩) (kp.block xb hXx hxp)).trans HY1.out
                have SM := Lib.hid sm
                have FD := Lib.hid fd
                have AR := Lib.hid ar
                have KP := Lib.hid kp
                clear sm fd ar kp
                by_cases hlt : i < all.length
                · have i0 : (i : Int) < (all.length : Int) := by omega
                  have u0 : decide ((i : Int) < (all.length : Int)) = true := decide_eq_true (by omega)
                  obtain ⟨y, hy⟩ : ∃ y, all[i]? = some y := ⟨_, List.getElem?_eq_getElem hlt⟩
                  have hd := drop_at hy
                  have py := HG.out.mem y (List.mem_of_getElem? hy)
                  obtain ⟨ab, ao, eA, q0, q1, q2⟩ := (rdp_keep RD3.out fun a e => KP.out.block a.block (ALX.out a e).1 (ALX.out a e).2) i y hy
                  have hab := ALX.out _ eA
                  have hXa : X ab := hab.1
                  have hab2 : ab ≠ pb := hab.2
                  subst eA
                  obtain ⟨yl, yk, yv⟩ := y
                  obtain ⟨v, rfl⟩ : ∃ v : Nat, yl = v := ⟨yl.toNat, by have h : 0 ≤ yl := py.l0; omega⟩
                  have q1 : wr.cell? ⟨ab, ao + i * 3 + 1, none⟩ = some (.int .u64 yk) := q1
                  have q2 : wr.cell? ⟨ab, ao + i * 3 + 2, none⟩ = some (.int .u64 yv) := q2
                  have fd := FD.out
                  rw [hd] at fd
                  have hgp := gp_drop HG.out i
                  rw [hd] at hgp
                  clear hd hy hab py q0
                  by_cases hk : yk < a2Key
                  · have g1 : decide (yk < a2Key) = true := decide_eq_true hk
                    rw [Mg.past_cons_no (show (⟨(v : Int), (yk, yv)⟩ : Pt).x.1 < a2Key from hk)] at fd
                    have FD2 := Lib.hid fd
                    clear fd hgp hk FD
                    go_wp2_with fail
                    go_quiet (fail)
                    go_wp2_with fail
                    go_roundw
                    case rel => exact ⟨i + 1, M, R, by go_num, by omega, SM.out.below (below_drewN (Below.refl _ wr) nq), FD2.out, AR.out.keep XP (fun i hi => rfl), KP.out.below (below_drewN (Below.refl _ wr) nq) SM.out.lt⟩
                    case measure => simp [intOf]; omega
                  · have g1 : decide (yk < a2Key) = false := decide_eq_false hk
                    have hpc := Mg.past_cons_yes (K := a2Key) (y := ⟨(v : Int), (yk, yv)⟩) (all := all.drop (i + 1)) hk
                    rw [hpc] at fd
                    have hgp2 := Mg.gp_past hgp a2Key
                    rw [hpc] at hgp2
                    have GP := Lib.hid hgp2
                    have FD2 := Lib.hid fd
                    clear fd hgp hgp2 hpc hk FD
                    go_wp2_with fail
                    go_quiet (fail)
                    have BQ := below_drewN (Below.refl wr.heap.size wr) nq
                    have SM := Lib.hid (SM.out.below BQ)
                    have AR := Lib.hid (show Ar X (wr.drewN nq) pb R from AR.out.keep XP (fun i hi => rfl))
                    have KP := Lib.hid (KP.out.below BQ (fun i hi => SM.out.lt i hi))
                    have q1 : (wr.drewN nq).cell? ⟨ab, ao + i * 3 + 1, none⟩ = some (.int .u64 yk) := q1
                    have q2 : (wr.drewN nq).cell? ⟨ab, ao + i * 3 + 2, none⟩ = some (.int .u64 yv) := q2
                    have kz : (wr.drewN nq).cell? ⟨xb, 1, none⟩ = some (.int .u64 a2Key) := kz
                    have TZ := KP.out.tz X0 hp0 TZ3.out
                    clear BQ
                    generalize wr.drewN nq = wq at *
                    have FE := Lib.hid (feed_any X W.heap.size pb S M _ R wq SM.out X0 XP hp0 AR.out FD2.out GP.out TZ)
                    clear TZ kz
                    go_wp2_with fail
                    refine FE.out.mono ?_
                    rintro r w4 ⟨rfl, N, R', sm, hm, fd, ar, kp⟩
                    have hh := fd.head GP.out hm sm.inv
                    have FD5 := Lib.hid (fd.pop GP.out hm sm.inv)
                    simp only [Int.toNat_natCast] at hh FD5
                    have SM4 := Lib.hid sm
                    have AR4 := Lib.hid ar
                    have KP4 := Lib.hid kp
                    have HM := Lib.hid hm
                    have HH := Lib.hid hh
                    have r1 := (World.cell?_of_block (a := ⟨ab, ao + i * 3 + 1, none⟩) (kp.block ab hXa hab2)).trans q1
                    have r2 := (World.cell?_of_block (a := ⟨ab, ao + i * 3 + 2, none⟩) (kp.block ab hXa hab2)).trans q2
                    clear sm hm fd ar kp hh q1 q2 AR SM FE
                    go_wp2_with fail
                    refine (popE SM4.out (Below.refl _ _) (popT (yk, yv) (v : Int) true 0) (N.popped v) (fun r N' hp => by
                      have h := pops_least HM.out v HH.out.1 HH.out.2.1 (fun u hu hhu hne => by rw [HH.out.2.2.1]; exact HH.out.2.2.2 u hu hhu hne) r N' hp
                      rw [HH.out.2.2.1] at h; exact h)).mono ?_
                    rintro r w6 ⟨rfl, sm, kx⟩
                    have SM6 := Lib.hid sm
                    have KX6 := Lib.hid kx
                    have m1 := (World.cell?_of_block (a := ⟨ab, ao + i * 3 + 1, none⟩) (kx.block ab hXa)).trans r1
                    have m2 := (World.cell?_of_block (a := ⟨ab, ao + i * 3 + 2, none⟩) (kx.block ab hXa)).trans r2
                    have habl := Nat.lt_of_lt_of_le (SM4.out.lt ab hXa) kx.size
                    clear sm kx r1 r2
                    unfold popT
                    go_wp2_with fail
                    have BA := bel_alloc (Below.refl w6.heap.size w6) (.cells #[.int .u64 yk, .int .u64 yv] 39)
                    have p0 : (w6.alloc (.cells #[.int .u64 yk, .int .u64 yv] 39)).cell? ⟨w6.heap.size, 0, none⟩ = some (.int .u64 yk) := by simp
                    have p1 : (w6.alloc (.cells #[.int .u64 yk, .int .u64 yv] 39)).cell? ⟨w6.heap.size, 1, none⟩ = some (.int .u64 yv) := by simp
                    replace m1 := (BA.cell (p := ⟨ab, ao + i * 3 + 1, none⟩) habl).trans m1
                    replace m2 := (BA.cell (p := ⟨ab, ao + i * 3 + 2, none⟩) habl).trans m2
                    have HBA := Lib.hid BA
                    clear BA habl
                    generalize w6.alloc (.cells #[.int .u64 yk, .int .u64 yv] 39) = W7 at *
                    generalize w6.heap.size = pb7 at p0 p1 ⊢
                    go_quiet (fail)
                    go_wp2_with fail
                    go_roundw
                    case rel =>
                      have BD := below_drewN HBA.out nq
                      exact ⟨i + 1, N.popped v, R', by go_num, by omega, SM6.out.below BD, FD5.out, AR4.out.keep XP (fun i hi => (BD.block i (SM6.out.lt i hi)).trans (KX6.out.block i hi)), ((KP.out.trans KP4.out).kx KX6.out).below BD SM6.out.lt⟩
                    case measure => simp [intOf]; omega
                · have u0 : decide ((i : Int) < (all.length : Int)) = false := decide_eq_false (by omega)
                  have fd := FD.out
                  rw [List.drop_eq_nil_of_le (show all.length ≤ i by omega)] at fd
                  have TZ := KP.out.tz X0 hp0 TZ3.out
                  have FE := Lib.hid (feed_any X W.heap.size pb S M [] R wr SM.out X0 XP hp0 AR.out fd (Gp.nil S) TZ)
                  clear fd TZ FD
                  go_wp2_with fail
                  refine FE.out.mono ?_
                  rintro r w4 ⟨rfl, N, R', sm, hm, fd, ar, kp⟩
                  have hno := fd.none sm.inv
                  have hll0 := Mg.list_none sm.inv hno
                  have HLL := Lib.hid hll0
                  have SM4 := Lib.hid sm
                  have KP4 := Lib.hid (KP.out.trans kp)
                  clear sm hm fd ar kp hno hll0
                  go_wp2_with fail
                  refine (listS SM4.out).mono ?_
                  rw [HLL.out]
                  rintro r w5 ⟨⟨A5, c5, rfl, _, _⟩, hb5⟩
                  have BF := Lib.hid (BB.out.trans (kp_below (KP4.out.below hb5 SM4.out.lt) HXB.out hpw))
                  clear hb5
                  go_wp2_with fail
                  refine (known_any _ (TW.out.belowN hw0W BF.out)).mono ?_
                  rintro r w6 ⟨rfl, hb⟩
                  have BG := Lib.hid (BF.out.trans (hb.mono BF.out.size))
                  clear hb
                  go_wp2_with fail
                  go_ret
                  exact ⟨rfl, HBX.out.trans (BG.out.mono HBX.out.size)⟩
end Wk
end Go.Proofs.YtbndgbjenmknmaaDoor
