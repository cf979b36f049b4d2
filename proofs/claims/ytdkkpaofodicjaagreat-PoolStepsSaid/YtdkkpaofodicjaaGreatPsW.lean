/- leapfrogkit.EqualInts; leapfroglaw14.few, config; what a new store is: contracts of the translated code. Conditions: those of each lemma. -/
import Derived.Test.YtdkkpaofodicjaaGreatPsX
import Derived.Test.YtdkkpaofodicjaaGreatLyIn
namespace Go.Proofs.YtdkkpaofodicjaaGreat
open Go.RowKit Go.Sort
set_option linter.unusedVariables false
set_option linter.unusedSimpArgs false
set_option maxRecDepth 100000
namespace Po
open Wd
open Ly (Ge tot pP pK pW pk Cf LyAt KI geo okB)
open Dm (addr_lit info_parts spot_none RdK flatU infoU bel_alloc bel_trans own_keep below_drewN)
theorem bel_drawN {B : Nat} {a w : World} (h : Below B a w) (n : Nat) : Below B a (w.drewN n) := ⟨h.os, h.tape, h.output, h.size, h.block⟩
theorem ret_eq {a b : Value} (h : a = b) : Ending.returned a = Ending.returned b := by rw [h]
theorem ext_get {α : Type} {l m : List α} {n : Nat} (hl : l.length = n) (hm : m.length = n) (h : ∀ t, t < n → l[t]? = m[t]?) : l = m := by
  apply List.ext_getElem?
  intro i
  by_cases hi : i < n
  · exact h i hi
  · rw [List.getElem?_eq_none (by omega), List.getElem?_eq_none (by omega)]
theorem get_some {α : Type} {l : List α} {j : Nat} (h : j < l.length) : ∃ x, l[j]? = some x := ⟨_, List.getElem?_eq_getElem h⟩
theorem equI (A B : Option Addr) (m c q d : Nat) (l r : List Int) (w : World) (hm : l.length = m) (hq : r.length = q) (hx : m ≤ 100000) (hy : q ≤ 100000) (hl : KI.Rd w A l) (hr : KI.Rd w B r) :
    Calls Tryz.prog 20 #[.slice A m c, .slice B q d] w fun e w' => e = .returned (.bool (decide (l = r))) ∧ Below w.heap.size w w' := by
  have HL := Lib.hid hl; clear hl
  have HR := Lib.hid hr; clear hr
  have HM := Lib.hid hm; clear hm
  have HQ := Lib.hid hq; clear hq
  by_cases hmq : m = q
  · subst hmq
    have t0 : ((m : Int) != m) = false := by simp
    go_enter Tryz.func20, Tryz.ntmps20
    go_wp2
    go_loopw [5] (fun i wr => ∃ j : Nat, j ≤ m ∧ i = .int .i64 j ∧ (∀ t : Nat, t < j → l[t]? = r[t]?) ∧ Below w.heap.size w wr) (fun i _ => (m - intOf i).toNat)
    case atStart => exact ⟨0, Nat.zero_le _, rfl, fun t h => absurd h (Nat.not_lt_zero _), Below.refl _ _⟩
    case round =>
      obtain ⟨j, hj, rfl, hE, bel⟩ := hrel
      have HE := Lib.hid hE; clear hE
      by_cases hlt : j < m
      · obtain ⟨x, hx⟩ := get_some (show j < l.length by rw [HM.out]; exact hlt)
        obtain ⟨y, hy⟩ := get_some (show j < r.length by rw [HQ.out]; exact hlt)
        obtain ⟨b, o, rfl, g⟩ := (HL.out.below bel) j x hx
        obtain ⟨b', o', rfl, k⟩ := (HR.out.below bel) j y hy
        have g0 : wr.cell? ⟨b, o + j, none⟩ = some (.int .i64 x) := by have := g 0 _ rfl; rwa [show o + j * KI.sz + 0 = o + j by show o + j * 1 + 0 = o + j; omega] at this
        have k0 : wr.cell? ⟨b', o' + j, none⟩ = some (.int .i64 y) := by have := k 0 _ rfl; rwa [show o' + j * KI.sz + 0 = o' + j by show o' + j * 1 + 0 = o' + j; omega] at this
        have t1 : decide ((j : Int) < m) = true := by simp; omega
        have hji : (j : Int) < m := by omega
        clear g k
        by_cases hxy : x = y
        · have HN := Lib.hid (show ∀ t : Nat, t < j + 1 → l[t]? = r[t]? from fun t ht => by
            by_cases h : t < j
            · exact HE.out t h
            · obtain rfl : t = j := by omega
              rw [hx, hy, hxy])
          have t2 : (x != y) = false := by simp [hxy]
          have t3 : (x == y) = true := by simp [hxy]
          clear hx hy hxy
          go_wp2
          go_quiet (fail)
          go_wp2
          go_roundw
          case rel => exact ⟨j + 1, by omega, by go_num, HN.out, bel_drawN bel _⟩
          case measure => simp [intOf]; omega
        · have HN := Lib.hid (show ¬ l = r from fun h => hxy (by rw [h, hy] at hx; exact (Option.some.inj hx).symm))
          have t2 : (x != y) = true := by simp [hxy]
          have t3 : (x == y) = false := by simp [hxy]
          clear hx hy hxy
          go_wp2
          go_quiet (fail)
          go_wp2
          go_ret
          exact ⟨ret_eq (congrArg Value.bool (decide_eq_false HN.out).symm), bel_drawN bel _⟩
      · obtain rfl : j = m := by omega
        have HN := Lib.hid (show l = r from ext_get HM.out HQ.out HE.out)
        have t1 : decide ((j : Int) < j) = false := by simp
        go_wp2
        go_ret
        exact ⟨ret_eq (congrArg Value.bool (decide_eq_true HN.out).symm), bel⟩
  · have HN := Lib.hid (show ¬ l = r from fun h => hmq (by rw [← HM.out, ← HQ.out, h]))
    have t0 : ((m : Int) != q) = true := by simp; omega
    go_enter Tryz.func20, Tryz.ntmps20
    go_wp2
    go_ret
    exact ⟨ret_eq (congrArg Value.bool (decide_eq_false HN.out).symm), Below.refl _ _⟩
theorem equI_same (A B : Option Addr) (m c d : Nat) (l : List Int) (w : World) (hm : l.length = m) (hx : m ≤ 100000) (hl : KI.Rd w A l) (hr : KI.Rd w B l) :
    Calls Tryz.prog 20 #[.slice A m c, .slice B m d] w fun e w' => e = .returned (.bool true) ∧ Below w.heap.size w w' := by
  have h := equI A B m c m d l l w hm hm hx hx hl hr
  rw [decide_eq_true rfl] at h
  exact h
/-! ### few, config -/
def sumT (t : Nat → Int) : Nat → Int
  | 0 => 0
  | k + 1 => sumT t k + t k
def goodT (t : Nat → Int) (k : Nat) : Prop := ∀ i, i < k → 0 ≤ t i ∧ t i ≤ 40
/-- at most 40 towers -/
def FewT (t : Nat → Int) : Prop := goodT t 6 ∧ sumT t 6 ≤ 40
def six (t : Nat → Int) : Array Value := #[.int .i64 (t 0), .int .i64 (t 1), .int .i64 (t 2), .int .i64 (t 3), .int .i64 (t 4), .int .i64 (t 5)]
theorem six_cell {W : World} {b : Nat} {t : Nat → Int} {ty : TypeId} (h : W.heap[b]? = some (.cells (six t) ty (0, 0))) {k : Nat} (hk : k < 6) : W.cell? ⟨b, k, none⟩ = some (.int .i64 (t k)) := cell_heap h (by
  match k, hk with
  | 0, _ => rfl
  | 1, _ => rfl
  | 2, _ => rfl
  | 3, _ => rfl
  | 4, _ => rfl
  | 5, _ => rfl)
theorem sumT_bd {t : Nat → Int} : ∀ {k : Nat}, goodT t k → 0 ≤ sumT t k ∧ sumT t k ≤ 40 * (k : Int)
  | 0, _ => by simp [sumT]
  | k + 1, h => by
    have h1 := sumT_bd (t := t) (k := k) fun i hi => h i (by omega)
    have h2 := h k (Nat.lt_succ_self k)
    rw [sumT]
    constructor <;> omega
set_option maxHeartbeats 1000000 in
theorem few_any (t : Nat → Int) (w : World) : Calls Tryz.prog 4 #[.agg (six t)] w fun e w' => ∃ b : Bool, e = .returned (.bool b) ∧ (b = true ↔ FewT t) ∧ Below w.heap.size w w' := by
  obtain ⟨W1, hW1⟩ : ∃ W, W = w.alloc (.cells (six t) 22) := ⟨_, rfl⟩
  have hh : W1.heap[w.heap.size]? = some (.cells (six t) 22 (0, 0)) := by rw [hW1]; exact heap_alloc_new w _
  have B1 : Below w.heap.size w W1 := by rw [hW1]; exact bel_new (Below.refl _ _) _
  have hsz : W1.heap.size = w.heap.size + 1 := by rw [hW1, World.size_alloc]
  go_enter Tryz.func4, Tryz.ntmps4
  go_wp2
  go_loopw [3, 4] (fun vn vi wr => ∃ i : Nat, vi = .int .i64 (i : Int) ∧ i ≤ 6 ∧ goodT t i ∧ vn = .int .i64 (sumT t i) ∧ Below W1.heap.size W1 wr) (fun _ i _ => (6 - intOf i).toNat)
  case atStart => exact ⟨0, rfl, by omega, fun i h => by omega, rfl, by rw [hW1]; exact Below.refl _ _⟩
  case round =>
    obtain ⟨i, rfl, hi, hg, rfl, bel⟩ := hrel
    have hbd := sumT_bd hg
    by_cases hlt : i < 6
    · have d0 : decide ((i : Int) < 6) = true := decide_eq_true (by omega)
      have d0' : decide (i < 6) = true := decide_eq_true hlt
      have x1 : (i : Int) < 6 := by omega
      have hw1 : IntKind.i64.wrap ((i : Int) + 1) = (i : Int) + 1 := IntWalk.i64_in _ (by omega)
      have cc := (bel.cell (p := ⟨w.heap.size, i, none⟩) (by rw [hsz]; exact Nat.lt_succ_self _)).trans (six_cell hh hlt)
      obtain ⟨v, hv⟩ : ∃ v, v = t i := ⟨_, rfl⟩
      rw [← hv] at cc
      by_cases h1 : v < 0
      · have d1 : decide (v < 0) = true := decide_eq_true h1
        have HN := Lib.hid (show ¬ FewT t from fun h => by have := (h.1 i hlt).1; omega)
        clear h1 hv hbd
        go_wp2
        go_ret
        exact ⟨false, rfl, ⟨fun h => by simp at h, fun h => absurd h HN.out⟩, B1.trans (bel.mono B1.size)⟩
      have d1 : decide (v < 0) = false := decide_eq_false h1
      by_cases h2 : 40 < v
      · have d2 : decide (40 < v) = true := decide_eq_true h2
        have HN := Lib.hid (show ¬ FewT t from fun h => by have := (h.1 i hlt).2; omega)
        clear h1 h2 hv hbd
        go_wp2
        go_ret
        exact ⟨false, rfl, ⟨fun h => by simp at h, fun h => absurd h HN.out⟩, B1.trans (bel.mono B1.size)⟩
      have d2 : decide (40 < v) = false := decide_eq_false h2
      have hw2 : IntKind.i64.wrap (sumT t i + v) = sumT t i + v := IntWalk.i64_in _ (by omega)
      have hw2' : wrap64 (sumT t i + v) = sumT t i + v := IntWalk.wrap64_in _ (by omega)
      have HS := Lib.hid (show sumT t i + v = sumT t (i + 1) by rw [sumT, hv])
      have HG := Lib.hid (show goodT t (i + 1) from fun k hk => by
        by_cases e : k < i
        · exact hg k e
        · obtain rfl : k = i := by omega
          rw [← hv]; omega)
      clear h1 h2 hv hbd hg
      generalize sumT t i = s at *
      go_wp2
      go_roundw
      case rel => exact ⟨i + 1, by go_num, by omega, HG.out, by rw [← HS.out], bel⟩
      case measure => simp [intOf]; omega
    · obtain rfl : i = 6 := by omega
      have HX := Lib.hid (show decide (sumT t 6 ≤ 40) = true ↔ FewT t from ⟨fun h => ⟨hg, of_decide_eq_true h⟩, fun h => decide_eq_true h.2⟩)
      clear hg hbd
      generalize sumT t 6 = s at *
      go_wp2
      go_ret
      exact ⟨_, rfl, HX.out, B1.trans (bel.mono B1.size)⟩
/-- the configuration of the laws -/
def cf0 (t : Nat → Int) : Cf := ⟨8, 1, 1, 0, 1, 0, none, 0, 0, t, 1, 1, 0⟩
def cfgV (f : Cf) : Value := .agg #[.int .i64 f.th, .int .i64 f.sl, .int .u8 f.en, .int .i64 f.bu, .int .u8 f.k, .int .i64 f.n, .slice f.A f.m f.c, .int .i64 (f.t 0), .int .i64 (f.t 1), .int .i64 (f.t 2), .int .i64 (f.t 3), .int .i64 (f.t 4), .int .i64 (f.t 5), .int .i64 f.lo, .int .i64 f.tr, .int .i64 f.ba]
theorem config_any (t : Nat → Int) (w : World) : Calls Tryz.prog 6 #[.agg (six t)] w fun e w' => e = .returned (cfgV (cf0 t)) ∧ Below w.heap.size w w' := by
  unfold cfgV cf0 six
  dsimp only
  generalize t 0 = t0 at *
  generalize t 1 = t1 at *
  generalize t 2 = t2 at *
  generalize t 3 = t3 at *
  generalize t 4 = t4 at *
  generalize t 5 = t5 at *
  go_enter Tryz.func6, Tryz.ntmps6
  go_wp2
  refine bodyPost_ret (v := .agg #[.int .i64 8, .int .i64 1, .int .u8 1, .int .i64 0, .int .u8 1, .int .i64 0, .slice none 0 0, .int .i64 t0, .int .i64 t1, .int .i64 t2, .int .i64 t3, .int .i64 t4, .int .i64 t5, .int .i64 1, .int .i64 1, .int .i64 0]) (by simp [results, Tryz.results6, go_sem]) rfl ⟨rfl, ?_⟩
  exact bel_new (bel_new (Below.refl _ _) _) _
/-! ### a new store -/
def g0 (t : Nat → Int) : Ge := ⟨1, 1, 1, 1, fun i => (t i).toNat⟩
theorem geo_g0 (t : Nat → Int) : geo (cf0 t) [] = g0 t := rfl
theorem sm_sumT (t : Nat → Int) : ∀ k, Ly.sm t k = sumT t k
  | 0 => rfl
  | k + 1 => by rw [Ly.sm, sumT, sm_sumT t k]
theorem few_twB {t : Nat → Int} : ∀ {k : Nat}, goodT t k → sumT t k ≤ 1024 → Ly.twB t k = true
  | 0, _, _ => rfl
  | k + 1, h, hs => by
    have hk := h k (Nat.lt_succ_self k)
    have hb := sumT_bd (t := t) (k := k) fun i hi => h i (by omega)
    rw [sumT] at hs
    rw [Ly.twB, few_twB (fun i hi => h i (by omega)) (by omega), sm_sumT, decide_eq_true hk.1, decide_eq_true (by omega)]
    rfl
theorem few_ok {t : Nat → Int} (h : FewT t) : okB (cf0 t) [] = true := by
  have h1 := few_twB h.1 (by have := h.2; omega)
  unfold okB
  show (_ && Ly.twB t 6 && _ && _ && _) = true
  rw [h1]
  rfl
theorem tot_sumT {t : Nat → Int} : ∀ {k : Nat}, goodT t k → ((tot (fun i => (t i).toNat) k : Nat) : Int) = sumT t k
  | 0, _ => rfl
  | k + 1, h => by
    have hk := h k (Nat.lt_succ_self k)
    have := tot_sumT (t := t) (k := k) fun i hi => h i (by omega)
    rw [tot, sumT]
    omega
theorem g0_n {t : Nat → Int} (h : FewT t) : tot (g0 t).t 6 ≤ 40 := by
  have := tot_sumT h.1
  have h2 := h.2
  show tot (fun i => (t i).toNat) 6 ≤ 40
  omega
theorem g0_ok {t : Nat → Int} (h : FewT t) : (g0 t).ok := ⟨Nat.le_refl 1, (by decide : 1 ≤ 64), Nat.le_refl 1, (by decide : 1 ≤ 128), Nat.le_refl 1, (by decide : 1 ≤ 16), Nat.le_refl 1, (by decide : 1 ≤ 64), by have := g0_n h; omega⟩
theorem wds_bd (t : Nat → Nat) : ∀ k, k ≤ 6 → Ly.wds t k ≤ tot t k * 12
  | 0, _ => Nat.le_refl _
  | k + 1, h => by
    have := wds_bd t k (by omega)
    rw [Ly.wds, tot]
    have h2 : t k * (6 + k) ≤ t k * 12 := Nat.mul_le_mul_left _ (by omega)
    omega
theorem g0_pP (t : Nat → Int) : pP (g0 t) = 7 := rfl
theorem g0_pW {t : Nat → Int} (h : FewT t) : 0 < pW (g0 t) ∧ pW (g0 t) ≤ 1000 := by
  have h1 := g0_n h
  have h2 := wds_bd (g0 t).t 6 (Nat.le_refl _)
  have h3 : pW (g0 t) = 13 + tot (g0 t).t 6 + 7 + Ly.wds (g0 t).t 6 := by
    unfold pW Ly.pT
    rfl
  omega
theorem ini_bd (g : Ge) (ok : g.ok) : BdW (Ly.ini g) := fun x hx => by
  unfold Ly.ini at hx
  rw [List.mem_map] at hx
  obtain ⟨a, _, rfl⟩ := hx
  have := Ly.st_bd g ok 6 (tot g.t 6) a
  omega
theorem cf0_bd {t : Nat → Int} (h : ∀ i, i < 6 → Ly.I64 (t i)) : (cf0 t).Bd [] := by
  have i8 : Ly.I64 8 := by constructor <;> decide
  have i1 : Ly.I64 1 := by constructor <;> decide
  have i0 : Ly.I64 0 := by constructor <;> decide
  have u1 : (0 : Int) ≤ 1 ∧ (1 : Int) ≤ 255 := by decide
  exact ⟨i8, i1, u1, i0, u1, i0, h, i1, i1, i0, rfl, Nat.zero_le _, fun k hk => by simp at hk, fun _ => rfl⟩
theorem few_i64 {t : Nat → Int} (h : FewT t) : ∀ i, i < 6 → Ly.I64 (t i) := fun i hi => by
  have := h.1 i hi
  constructor <;> omega
/-- layout.New of the laws' configuration -/
theorem newL {t : Nat → Int} (h : FewT t) (w : World) : Calls Tryz.prog 5 #[cfgV (cf0 t)] w fun e w' => ∃ b f, e = .returned (.tuple #[.pointer (some ⟨b, 0, none⟩), .int .i64 0]) ∧ LyAt w' b f [] (g0 t) ∧ Below w.heap.size w w' := by
  refine (Ly.new_any (cf0 t) [] w (cf0_bd (few_i64 h)) (fun k hk => by simp at hk)).mono ?_
  intro e w' hp
  unfold Ly.NewPost at hp
  rw [if_pos (few_ok h)] at hp
  obtain ⟨b, A, c, rfl, _, hl, _, _, hb⟩ := hp
  exact ⟨b, _, rfl, hl, hb⟩
/-- words.New of a layout's words -/
theorem newM {g : Ge} (ok : g.ok) (h0 : 0 < pW g) (h1 : pW g ≤ 65536) {w : World} {b : Nat} {base : Nat} (hr : w.ownsRow base 101 1 (.slice (some ⟨b, 0, none⟩) (pW g) (pW g)) (pW g) ((Ly.ini g).map (Value.int .u64))) : Calls Tryz.prog 8 #[.slice (some ⟨b, 0, none⟩) (pW g) (pW g)] w fun e w' => ∃ bm p, e = .returned (.tuple #[.pointer (some ⟨bm, 0, none⟩), .int .i64 0]) ∧ At 106 w' bm p none ⟨Ly.ini g, []⟩ ∧ w.heap.size ≤ bm ∧ w.heap.size ≤ p ∧ Below w.heap.size w w' := by
  have hl := Ly.ini_len g
  have hr2 : RdK .u64 w (some ⟨b, 0, none⟩) (Ly.ini g) := fun k hk => by
    refine ⟨b, 0, rfl, ?_⟩
    rw [Nat.zero_add, hr.cellAt k (by omega)]
    rw [List.getElem?_map, List.getD_eq_getElem?_getD, List.getElem?_eq_getElem hk]
    rfl
  refine (Wd.new_any (some ⟨b, 0, none⟩) (pW g) (pW g) (Ly.ini g) w hl (by unfold maxLen; omega) hr2 (ini_bd g ok)).mono ?_
  rintro e w' (⟨h, _⟩ | ⟨_, bm, p, rfl, ha, hbm, hp, hb⟩)
  · exact absurd (by rw [hl]; unfold newE; rw [if_neg (by omega), if_neg (by omega)]) h
  · exact ⟨bm, p, rfl, ha, hbm, hp, hb⟩
theorem SA.made {w1 w3 w4 : World} {bl bm p ta : Nat} {f : Cf} {l : List Int} {g : Ge} (ok : g.ok) (hl : LyAt w1 bl f l g) (b13 : Below w1.heap.size w1 w3) (hm : At 106 w3 bm p none ⟨Ly.ini g, []⟩) (h1 : w1.heap.size ≤ bm) (h2 : w1.heap.size ≤ p) (b34 : Below w3.heap.size w3 w4) (hp : PA w4 (ta + 1) bm bl ta (tot g.t 6) (pm0 ⟨Ly.ini g, []⟩)) (h3 : w3.heap.size ≤ ta) (a : Nat → Nat) :
    ∃ c, SA ⟨ta + 1, bm, bl, ta, f, l, g⟩ w4 c (pm0 ⟨Ly.ini g, []⟩) (fun _ => none) a ∧ (∀ i, i < w1.heap.size → c i = 0) := by
  have lt := hm.lt
  have lb : bm < w3.heap.size := lt bm (.inl rfl)
  have lp : p < w3.heap.size := lt p (.inr (.inl rfl))
  have hs := b13.size
  obtain ⟨c, hc⟩ : ∃ c : Nat → Nat, c = fun i => if i < w1.heap.size then 0 else if i = bm ∨ i = p then 1 else if i = ta then 5 else 7 := ⟨_, rfl⟩
  have c0 : ∀ i, i < w1.heap.size → c i = 0 := fun i hi => by rw [hc]; exact if_pos hi
  have c1 : ∀ i, w1.heap.size ≤ i → (i = bm ∨ i = p) → c i = 1 := fun i hi e => by rw [hc]; show (if _ then _ else _) = _; rw [if_neg (by omega), if_pos e]
  have c5 : c ta = 5 := by rw [hc]; show (if _ then _ else _) = _; rw [if_neg (by omega), if_neg (by omega), if_pos rfl]
  have c7 : c (ta + 1) = 7 := by rw [hc]; show (if _ then _ else _) = _; rw [if_neg (by omega), if_neg (by omega), if_neg (by omega)]
  refine ⟨c, ⟨⟨p, none, hm.below b34, fun i hi => ?_⟩, hp, c5, c7, ⟨w1, hl, b13.trans (b34.mono hs), c0⟩, ok, fun i r h => (by cases h), fun i j r s h => (by cases h)⟩, c0⟩
  rcases hi with e | e | e
  · have e' : i = bm := e
    exact c1 i (by omega) (.inl e')
  · have e' : i = p := e
    exact c1 i (by omega) (.inr e')
  · cases e
theorem AlB.made {K : Kc} (ok : K.g.ok) (hpp : pP K.g ≤ 1000000) : AlB K (pm0 ⟨Ly.ini K.g, []⟩) (stk0 K.g) (fun _ => 0) (fun _ => none) 0 :=
  ⟨all_start K.g ok, hpp, Nat.le_refl _, fun _ => Nat.le_refl _, fun i r h => (by cases h)⟩
end Po
end Go.Proofs.YtdkkpaofodicjaaGreat
