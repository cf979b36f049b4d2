/- Package layout: New, Config, Places, Towers, peers, Height, Word, node, Next, Latch, Of: contracts of the translated code. No conditions beside those of each lemma. -/
import Derived.Test.YtjcbjbhlclajnaaLyH1
namespace Go.Proofs.Ytjcbjbhlclajnaa
open Go.RowKit Go.Sort
set_option linter.unusedVariables false
set_option linter.unusedSimpArgs false
set_option maxRecDepth 100000
namespace Ly
open Dm (RdK BdU dmB dmE dmN bel_alloc bel_trans cell_lt)
/-- the numbers of the layout of a valid configuration -/
def geo (f : Cf) (l : List Int) : Ge := ⟨f.sl.toNat, (engW f).toNat, f.lo.toNat, (dmN f.k f.n l).toNat, fun i => (f.t i).toNat⟩
theorem sm_tot {t : Nat → Int} : ∀ {n : Nat}, twB t n = true → sm t n = (tot (fun i => (t i).toNat) n : Nat)
  | 0, _ => rfl
  | n + 1, h => by
    rw [twB, Bool.and_eq_true, Bool.and_eq_true, decide_eq_true_iff, decide_eq_true_iff] at h
    rw [sm, tot, sm_tot h.1]
    have := h.2.1
    omega
theorem twB_at {t : Nat → Int} : ∀ {n i : Nat}, twB t n = true → i < n → 0 ≤ t i
  | 0, _, _, h => by omega
  | n + 1, i, h, hi => by
    rw [twB, Bool.and_eq_true, Bool.and_eq_true, decide_eq_true_iff, decide_eq_true_iff] at h
    by_cases e : i = n
    · subst e; exact h.2.1
    · exact twB_at h.1 (by omega)
theorem ok_parts {f : Cf} {l : List Int} (h : okB f l = true) : (1 ≤ f.th ∧ f.th ≤ 64) ∧ (1 ≤ f.sl ∧ f.sl ≤ 64) ∧ engB f.en f.bu = true ∧ dmB f.k f.n l = true ∧ twB f.t 6 = true ∧ (1 ≤ f.lo ∧ f.lo ≤ 16) ∧ (1 ≤ f.tr ∧ f.tr ≤ 255) ∧ (0 ≤ f.ba ∧ f.ba ≤ 64) := by
  simp only [okB, Bool.and_eq_true, decide_eq_true_iff] at h
  obtain ⟨⟨⟨⟨⟨⟨⟨h1, h2⟩, h3⟩, h4⟩, h5⟩, h6⟩, h7⟩, h8⟩ := h
  exact ⟨h1, h2, h3, h4, h5, h6, h7, h8⟩
theorem eng_parts {f : Cf} (h : engB f.en f.bu = true) (hs : 1 ≤ f.sl ∧ f.sl ≤ 64) : 1 ≤ engW f ∧ engW f ≤ 128 ∧ 0 ≤ f.bu ∧ f.bu ≤ 16 := by
  unfold engB at h
  unfold engW
  by_cases e1 : f.en = 1
  · rw [if_pos (.inl e1), decide_eq_true_iff] at h
    rw [if_pos e1]; omega
  by_cases e2 : f.en = 2
  · rw [if_pos (.inr e2), decide_eq_true_iff] at h
    rw [if_neg e1, if_pos e2]; omega
  rw [if_neg (by omega)] at h
  rw [if_neg e1, if_neg e2]
  by_cases e3 : f.en = 3
  · rw [if_pos e3, Bool.and_eq_true, decide_eq_true_iff, decide_eq_true_iff] at h; omega
  · rw [if_neg e3] at h; cases h
theorem nums {f : Cf} {l : List Int} (h : okB f l = true) : Nums f (geo f l) := by
  obtain ⟨h1, h2, h3, h4, h5, h6, h7, h8⟩ := ok_parts h
  have he := eng_parts h3 h2
  have hd := Dm.dmN_64 (k := f.k) (n := f.n) (l := l)
  have hd1 := Dm.dmN_pos h4
  have hs := twB_sm h5
  have ht := sm_tot h5
  refine ⟨?_, ?_, ?_, fun i hi => ?_, ⟨?_, ?_, ?_, ?_, ?_, ?_, ?_, ?_, ?_⟩, ?_⟩ <;> (try simp only [geo])
  · omega
  · omega
  · omega
  · have := twB_at h5 hi; omega
  · omega
  · omega
  · omega
  · omega
  · omega
  · omega
  · omega
  · omega
  · omega
  · omega
/-- what New leaves: a layout in a new block, or nil -/
def NewPost (f : Cf) (l : List Int) (w : World) (e : Ending) (w' : World) : Prop :=
  if okB f l = true then ∃ b A c, e = .returned (.tuple #[.pointer (some ⟨b, 0, none⟩), .int .i64 0]) ∧ w.heap.size ≤ b ∧ LyAt w' b (f.cut A c) l (geo f l) ∧ (A = none → c = 0) ∧ (∀ a, A = some a → w.heap.size ≤ a.block) ∧ Below w.heap.size w w'
  else e = .returned (.tuple #[.pointer none, .int .i64 2]) ∧ Below w.heap.size w w'
theorem cut_engW (f : Cf) (A : Option Addr) (c : Nat) : engW (f.cut A c) = engW f := rfl
theorem bz_made (w : World) (f : Cf) (t : TypeId) : Bz (w.alloc (.cells #[.int .i64 f.th, .int .i64 f.sl, .int .u8 f.en, .int .i64 f.bu, .int .u8 f.k, .int .i64 f.n, .slice f.A f.m f.c, .int .i64 (f.t 0), .int .i64 (f.t 1), .int .i64 (f.t 2), .int .i64 (f.t 3), .int .i64 (f.t 4), .int .i64 (f.t 5), .int .i64 f.lo, .int .i64 f.tr, .int .i64 f.ba, .int .i64 0, .int .i64 0, .int .i64 0, .int .i64 0, .int .i64 0, .int .i64 0, .int .i64 0, .int .i64 0, .int .i64 0, .int .i64 0, .slice none 0 0, .int .u8 0, .int .i64 0, .int .i64 0, .int .i64 0, .int .i64 0, .int .u8 0, .int .i64 0, .int .i64 0, .int .i64 0, .int .i64 0, .int .u8 0, .int .i64 0, .int .i64 0, .int .i64 0, .int .i64 0, .int .u8 0, .int .i64 0, .int .i64 0, .int .i64 0, .int .i64 0, .int .u8 0, .int .i64 0, .int .i64 0, .int .i64 0, .int .i64 0, .int .u8 0, .int .i64 0, .int .i64 0, .int .i64 0, .int .i64 0, .int .u8 0, .int .i64 0, .int .i64 0, .int .i64 0, .int .i64 0, .int .u8 0, .int .i64 0, .int .i64 0, .int .i64 0, .int .i64 0] t)) w.heap.size f := by
  have k : ∀ j, (w.alloc (.cells #[.int .i64 f.th, .int .i64 f.sl, .int .u8 f.en, .int .i64 f.bu, .int .u8 f.k, .int .i64 f.n, .slice f.A f.m f.c, .int .i64 (f.t 0), .int .i64 (f.t 1), .int .i64 (f.t 2), .int .i64 (f.t 3), .int .i64 (f.t 4), .int .i64 (f.t 5), .int .i64 f.lo, .int .i64 f.tr, .int .i64 f.ba, .int .i64 0, .int .i64 0, .int .i64 0, .int .i64 0, .int .i64 0, .int .i64 0, .int .i64 0, .int .i64 0, .int .i64 0, .int .i64 0, .slice none 0 0, .int .u8 0, .int .i64 0, .int .i64 0, .int .i64 0, .int .i64 0, .int .u8 0, .int .i64 0, .int .i64 0, .int .i64 0, .int .i64 0, .int .u8 0, .int .i64 0, .int .i64 0, .int .i64 0, .int .i64 0, .int .u8 0, .int .i64 0, .int .i64 0, .int .i64 0, .int .i64 0, .int .u8 0, .int .i64 0, .int .i64 0, .int .i64 0, .int .i64 0, .int .u8 0, .int .i64 0, .int .i64 0, .int .i64 0, .int .i64 0, .int .u8 0, .int .i64 0, .int .i64 0, .int .i64 0, .int .i64 0, .int .u8 0, .int .i64 0, .int .i64 0, .int .i64 0, .int .i64 0] t)).cell? ⟨w.heap.size, j, none⟩ = (#[.int .i64 f.th, .int .i64 f.sl, .int .u8 f.en, .int .i64 f.bu, .int .u8 f.k, .int .i64 f.n, .slice f.A f.m f.c, .int .i64 (f.t 0), .int .i64 (f.t 1), .int .i64 (f.t 2), .int .i64 (f.t 3), .int .i64 (f.t 4), .int .i64 (f.t 5), .int .i64 f.lo, .int .i64 f.tr, .int .i64 f.ba, .int .i64 0, .int .i64 0, .int .i64 0, .int .i64 0, .int .i64 0, .int .i64 0, .int .i64 0, .int .i64 0, .int .i64 0, .int .i64 0, .slice none 0 0, .int .u8 0, .int .i64 0, .int .i64 0, .int .i64 0, .int .i64 0, .int .u8 0, .int .i64 0, .int .i64 0, .int .i64 0, .int .i64 0, .int .u8 0, .int .i64 0, .int .i64 0, .int .i64 0, .int .i64 0, .int .u8 0, .int .i64 0, .int .i64 0, .int .i64 0, .int .i64 0, .int .u8 0, .int .i64 0, .int .i64 0, .int .i64 0, .int .i64 0, .int .u8 0, .int .i64 0, .int .i64 0, .int .i64 0, .int .i64 0, .int .u8 0, .int .i64 0, .int .i64 0, .int .i64 0, .int .i64 0, .int .u8 0, .int .i64 0, .int .i64 0, .int .i64 0, .int .i64 0] : Array Value)[j]? := fun j => World.cell?_alloc_new _ _ _ _
  have kz : ∀ o, (∀ j, j < 5 → (#[.int .i64 f.th, .int .i64 f.sl, .int .u8 f.en, .int .i64 f.bu, .int .u8 f.k, .int .i64 f.n, .slice f.A f.m f.c, .int .i64 (f.t 0), .int .i64 (f.t 1), .int .i64 (f.t 2), .int .i64 (f.t 3), .int .i64 (f.t 4), .int .i64 (f.t 5), .int .i64 f.lo, .int .i64 f.tr, .int .i64 f.ba, .int .i64 0, .int .i64 0, .int .i64 0, .int .i64 0, .int .i64 0, .int .i64 0, .int .i64 0, .int .i64 0, .int .i64 0, .int .i64 0, .slice none 0 0, .int .u8 0, .int .i64 0, .int .i64 0, .int .i64 0, .int .i64 0, .int .u8 0, .int .i64 0, .int .i64 0, .int .i64 0, .int .i64 0, .int .u8 0, .int .i64 0, .int .i64 0, .int .i64 0, .int .i64 0, .int .u8 0, .int .i64 0, .int .i64 0, .int .i64 0, .int .i64 0, .int .u8 0, .int .i64 0, .int .i64 0, .int .i64 0, .int .i64 0, .int .u8 0, .int .i64 0, .int .i64 0, .int .i64 0, .int .i64 0, .int .u8 0, .int .i64 0, .int .i64 0, .int .i64 0, .int .i64 0, .int .u8 0, .int .i64 0, .int .i64 0, .int .i64 0, .int .i64 0] : Array Value)[o + j]? = (KG.enc z5)[j]?) → KG.At (w.alloc (.cells #[.int .i64 f.th, .int .i64 f.sl, .int .u8 f.en, .int .i64 f.bu, .int .u8 f.k, .int .i64 f.n, .slice f.A f.m f.c, .int .i64 (f.t 0), .int .i64 (f.t 1), .int .i64 (f.t 2), .int .i64 (f.t 3), .int .i64 (f.t 4), .int .i64 (f.t 5), .int .i64 f.lo, .int .i64 f.tr, .int .i64 f.ba, .int .i64 0, .int .i64 0, .int .i64 0, .int .i64 0, .int .i64 0, .int .i64 0, .int .i64 0, .int .i64 0, .int .i64 0, .int .i64 0, .slice none 0 0, .int .u8 0, .int .i64 0, .int .i64 0, .int .i64 0, .int .i64 0, .int .u8 0, .int .i64 0, .int .i64 0, .int .i64 0, .int .i64 0, .int .u8 0, .int .i64 0, .int .i64 0, .int .i64 0, .int .i64 0, .int .u8 0, .int .i64 0, .int .i64 0, .int .i64 0, .int .i64 0, .int .u8 0, .int .i64 0, .int .i64 0, .int .i64 0, .int .i64 0, .int .u8 0, .int .i64 0, .int .i64 0, .int .i64 0, .int .i64 0, .int .u8 0, .int .i64 0, .int .i64 0, .int .i64 0, .int .i64 0, .int .u8 0, .int .i64 0, .int .i64 0, .int .i64 0, .int .i64 0] t)) w.heap.size o z5 := fun o h j u hj => by
    rw [k, h j ((List.getElem?_eq_some_iff.1 hj).1)]; exact hj
  refine ⟨?_, fun i hi => ?_, by rw [k]; rfl, kz _ fun j hj => ?_, kz _ fun j hj => ?_, fun i hi => kz _ fun j hj => ?_, fun j => World.frozen?_alloc_new _ _ _ _⟩
  · constructor <;> (rw [k]; rfl)
  · rw [k]
    rcases (show i = 0 ∨ i = 1 ∨ i = 2 ∨ i = 3 ∨ i = 4 ∨ i = 5 ∨ i = 6 ∨ i = 7 ∨ i = 8 ∨ i = 9 by omega) with rfl | rfl | rfl | rfl | rfl | rfl | rfl | rfl | rfl | rfl <;> rfl
  · rcases (show j = 0 ∨ j = 1 ∨ j = 2 ∨ j = 3 ∨ j = 4 by omega) with rfl | rfl | rfl | rfl | rfl <;> rfl
  · rcases (show j = 0 ∨ j = 1 ∨ j = 2 ∨ j = 3 ∨ j = 4 by omega) with rfl | rfl | rfl | rfl | rfl <;> rfl
  · rcases (show i = 0 ∨ i = 1 ∨ i = 2 ∨ i = 3 ∨ i = 4 ∨ i = 5 by omega) with rfl | rfl | rfl | rfl | rfl | rfl <;>
      (rcases (show j = 0 ∨ j = 1 ∨ j = 2 ∨ j = 3 ∨ j = 4 by omega) with rfl | rfl | rfl | rfl | rfl <;> rfl)
theorem zv_lay (w : World) : (zeroValue 141).run Try.prog w = .ok (.agg #[.int .i64 0, .int .i64 0, .int .u8 0, .int .i64 0, .int .u8 0, .int .i64 0, .slice none 0 0, .int .i64 0, .int .i64 0, .int .i64 0, .int .i64 0, .int .i64 0, .int .i64 0, .int .i64 0, .int .i64 0, .int .i64 0, .int .i64 0, .int .i64 0, .int .i64 0, .int .i64 0, .int .i64 0, .int .i64 0, .int .i64 0, .int .i64 0, .int .i64 0, .int .i64 0, .slice none 0 0, .int .u8 0, .int .i64 0, .int .i64 0, .int .i64 0, .int .i64 0, .int .u8 0, .int .i64 0, .int .i64 0, .int .i64 0, .int .i64 0, .int .u8 0, .int .i64 0, .int .i64 0, .int .i64 0, .int .i64 0, .int .u8 0, .int .i64 0, .int .i64 0, .int .i64 0, .int .i64 0, .int .u8 0, .int .i64 0, .int .i64 0, .int .i64 0, .int .i64 0, .int .u8 0, .int .i64 0, .int .i64 0, .int .i64 0, .int .i64 0, .int .u8 0, .int .i64 0, .int .i64 0, .int .i64 0, .int .i64 0, .int .u8 0, .int .i64 0, .int .i64 0, .int .i64 0, .int .i64 0]) w := by kernel_rfl
set_option maxRecDepth 100000 in
set_option maxHeartbeats 4000000 in
theorem new_any (f : Cf) (l : List Int) (w : World) (hB : f.Bd l) (hr : RdK .u64 w f.A l) : Calls Try.prog 33 #[.agg #[.int .i64 f.th, .int .i64 f.sl, .int .u8 f.en, .int .i64 f.bu, .int .u8 f.k, .int .i64 f.n, .slice f.A f.m f.c, .int .i64 (f.t 0), .int .i64 (f.t 1), .int .i64 (f.t 2), .int .i64 (f.t 3), .int .i64 (f.t 4), .int .i64 (f.t 5), .int .i64 f.lo, .int .i64 f.tr, .int .i64 f.ba]] w (NewPost f l w) := by
  have HR := Lib.hid hr
  have HBd := Lib.hid hB
  have hE : ckE f l = if okB f l = true then 0 else 2 := rfl
  have hm := hB.mx
  clear hr hB
  cases hok : okB f l with
  | false =>
    rw [hok] at hE
    have HE := Lib.hid hE
    have HP := Lib.hid (show NewPost f l w = fun e w' => e = .returned (.tuple #[.pointer none, .int .i64 2]) ∧ Below w.heap.size w w' by unfold NewPost; rw [hok]; rfl)
    clear hE hok
    rw [HP.out]
    go_enter Try.func33, Try.ntmps33
    go_wp2_with fail
    refine (check_any f l _ HBd.out (HR.out.below (bel_alloc (Below.refl _ _) _))).mono ?_
    rw [HE.out]
    rintro r w1 ⟨rfl, b1⟩
    go_wp2
    go_ret2
    exact ⟨rfl, bel_trans (bel_alloc (Below.refl _ _) _) b1⟩
  | true =>
    rw [hok] at hE
    have HE := Lib.hid hE
    have HP := Lib.hid (show NewPost f l w = fun e w' => ∃ b A c, e = .returned (.tuple #[.pointer (some ⟨b, 0, none⟩), .int .i64 0]) ∧ w.heap.size ≤ b ∧ LyAt w' b (f.cut A c) l (geo f l) ∧ (A = none → c = 0) ∧ (∀ a, A = some a → w.heap.size ≤ a.block) ∧ Below w.heap.size w w' by unfold NewPost; rw [hok]; rfl)
    have HN := Lib.hid (nums hok)
    obtain ⟨_, _, _, hd, _⟩ := ok_parts hok
    have HD := Lib.hid (Dm.dmE_yes hd)
    have hmx : f.m ≤ 100000 := by
      have := HBd.out.e
      rcases Dm.dm_forms hd with ⟨_, _, e, _⟩ | ⟨_, _, _, e, _⟩ | ⟨_, _, l1, l2, _⟩
      · rw [e] at this; simp at this; omega
      · rw [e] at this; simp at this; omega
      · omega
    have HDN := Lib.hid (show dmN f.k f.n l = ((geo f l).D : Nat) by have := (Dm.dmN_64 (k := f.k) (n := f.n) (l := l)).1; simp only [geo]; omega)
    clear hE hok hd hm
    rw [HP.out]
    go_enter Try.func33, Try.ntmps33
    go_wp2_with fail
    refine (check_any f l _ HBd.out (HR.out.below (bel_alloc (Below.refl _ _) _))).mono ?_
    rw [HE.out]
    rintro r w1 ⟨rfl, b1⟩
    have BB := Lib.hid (bel_trans (bel_alloc (Below.refl w.heap.size w) (.cells #[.int .i64 f.th, .int .i64 f.sl, .int .u8 f.en, .int .i64 f.bu, .int .u8 f.k, .int .i64 f.n, .slice f.A f.m f.c, .int .i64 (f.t 0), .int .i64 (f.t 1), .int .i64 (f.t 2), .int .i64 (f.t 3), .int .i64 (f.t 4), .int .i64 (f.t 5), .int .i64 f.lo, .int .i64 f.tr, .int .i64 f.ba] 87)) b1)
    have cf := (CfB.made w f 87).below b1
    have CF := Lib.hid cf
    obtain ⟨x0, x1, x2, x3, x4, x5, x6, x7, x8, x9, x10, x11, x12, x13, x14, x15⟩ := cf
    clear b1
    go_wp2_with fail
    refine (Dm.values_any f.k f.n f.A f.m f.c l w1 HBd.out.k.1 HBd.out.k.2 HBd.out.n.1 HBd.out.n.2 HBd.out.e HBd.out.mx (HR.out.below BB.out) HBd.out.b).mono ?_
    rw [HD.out, HDN.out]
    rintro r w2 ⟨rfl, b2⟩
    have cf := CF.out.below b2
    have BB2 := Lib.hid (bel_trans BB.out b2)
    have CF2 := Lib.hid cf
    clear x0 x1 x2 x3 x4 x5 x6 x7 x8 x9 x10 x11 x12 x13 x14 x15 b2 BB CF
    obtain ⟨x0, x1, x2, x3, x4, x5, x6, x7, x8, x9, x10, x11, x12, x13, x14, x15⟩ := cf
    go_wp2_with fail
    refine (copied_any f l w2 HBd.out.e hmx (HR.out.below BB2.out)).mono ?_
    rintro r w3 ⟨A, c, rfl, b3, rdA, hz, hnc, hA⟩
    have BB3 := Lib.hid (bel_trans BB2.out b3)
    have HZ := Lib.hid hz
    have HA := Lib.hid hA
    have RDA := Lib.hid rdA
    clear x0 x1 x2 x3 x4 x5 x6 x7 x8 x9 x10 x11 x12 x13 x14 x15 CF2 hz hA rdA b3
    have hzv := zv_lay
    go_wp2_with fail
    refine (lay_any (f.cut A c) l (geo f l) w3.heap.size _ (bz_made w3 (f.cut A c) 141) ⟨HN.out.S, HN.out.E, HN.out.L, HN.out.t, HN.out.ok, HN.out.bu⟩ (RDA.out.below (bel_alloc (Below.refl _ _) _)) HBd.out.e (fun a e => (HA.out a e).2)).mono ?_
    rintro r w5 ⟨rfl, lay, b5⟩
    have BB5 := Lib.hid (BB3.out.trans (((bel_alloc (Below.refl w3.heap.size w3) _).trans b5).mono BB3.out.size))
    have LAY := Lib.hid lay
    clear lay b5
    go_wp2
    go_ret2
    exact ⟨_, A, c, rfl, BB3.out.size, LAY.out, HZ.out, fun a e => Nat.le_trans BB2.out.size (HA.out a e).1, BB5.out⟩
end Ly
end Go.Proofs.Ytjcbjbhlclajnaa
