/- leapfroglaw15: EqualInts, list, small: contracts of the translated code. Conditions: those of each contract. (Written by tools/mk15k.py.) -/
import Derived.Test.YtjcbjbhlclajnaaTwB
import Derived.Test.YtjcbjbhlclajnaaTwL
namespace Go.Proofs.Ytjcbjbhlclajnaa
open Go.RowKit Go.Sort
set_option linter.unusedVariables false
set_option linter.unusedSimpArgs false
set_option maxRecDepth 100000
namespace Tw
open Wd
open Po (Fc MC up up_lt up_ge up_of)
open Ly (Ge tot pk pW nxO wdO ad tg gs InT Cf LyAt I64 KI RAt okB geo CfB)
open Dm (addr_lit info_parts spot_none RdK flatU infoU bel_alloc bel_trans own_keep below_drewN)
theorem bel_drawN {B : Nat} {a w : World} (h : Below B a w) (n : Nat) : Below B a (w.drewN n) := ⟨h.os, h.tape, h.output, h.size, h.block⟩
theorem ret_eq {a b : Value} (h : a = b) : Ending.returned a = Ending.returned b := by rw [h]
theorem ext_get {α : Type} {l m : List α} {n : Nat} (hl : l.length = n) (hm : m.length = n) (h : ∀ t, t < n → l[t]? = m[t]?) : l = m := by
  apply List.ext_getElem?
  intro i
  by_cases hi : i < n
  · exact h i hi
  · rw [List.getElem?_eq_none (by omega), List.getElem?_eq_none (by omega)]
theorem get_some {α : Type} {l : List α} {j : Nat} (h : j < l.length) : ∃ x, l[j]? = some x := ⟨_, List.getElem?_eq_getElem h⟩
theorem equI (A B : Option Addr) (m c q d : Nat) (l r : List Int) (w : World) (hm : l.length = m) (hq : r.length = q) (hx : m ≤ 100000) (hy : q ≤ 100000) (hl : KI.Rd w A l) (hr : KI.Rd w B r) :
    Calls Try.prog 36 #[.slice A m c, .slice B q d] w fun e w' => e = .returned (.bool (decide (l = r))) ∧ Below w.heap.size w w' := by
  have HL := Lib.hid hl; clear hl
  have HR := Lib.hid hr; clear hr
  have HM := Lib.hid hm; clear hm
  have HQ := Lib.hid hq; clear hq
  by_cases hmq : m = q
  · subst hmq
    have t0 : ((m : Int) != m) = false := by simp
    go_enter Try.func36, Try.ntmps36
    go_wp2
    go_loopw [5] (fun i wr => ∃ j : Nat, j ≤ m ∧ i = .int .i64 j ∧ (∀ t : Nat, t < j → l[t]? = r[t]?) ∧ Below w.heap.size w wr) (fun i _ => (m - intOf i).toNat)
    case atStart => exact ⟨0, Nat.zero_le _, rfl, fun t h => absurd h (Nat.not_lt_zero _), Below.refl _ _⟩
    case round =>
      obtain ⟨j, hj, rfl, hE, bel⟩ := hrel
      have HE := Lib.hid hE; clear hE
      by_cases hlt : j < m
      · obtain ⟨x, hx⟩ := get_some (show j < l.length by rw [HM.out]; exact hlt)
        obtain ⟨y, hy⟩ := get_some (show j < r.length by rw [HQ.out]; exact hlt)
        obtain ⟨b, o, rfl, g⟩ := (HL.out.below bel) j x hx
        obtain ⟨b', o', rfl, k⟩ := (HR.out.below bel) j y hy
        have g0 : wr.cell? ⟨b, o + j, none⟩ = some (.int .i64 x) := by have := g 0 _ rfl; rwa [show o + j * KI.sz + 0 = o + j by show o + j * 1 + 0 = o + j; omega] at this
        have k0 : wr.cell? ⟨b', o' + j, none⟩ = some (.int .i64 y) := by have := k 0 _ rfl; rwa [show o' + j * KI.sz + 0 = o' + j by show o' + j * 1 + 0 = o' + j; omega] at this
        have t1 : decide ((j : Int) < m) = true := by simp; omega
        have hji : (j : Int) < m := by omega
        clear g k
        by_cases hxy : x = y
        · have HN := Lib.hid (show ∀ t : Nat, t < j + 1 → l[t]? = r[t]? from fun t ht => by
            by_cases h : t < j
            · exact HE.out t h
            · obtain rfl : t = j := by omega
              rw [hx, hy, hxy])
          have t2 : (x != y) = false := by simp [hxy]
          have t3 : (x == y) = true := by simp [hxy]
          clear hx hy hxy
          go_wp2
          go_quiet (fail)
          go_wp2
          go_roundw
          case rel => exact ⟨j + 1, by omega, by go_num, HN.out, bel_drawN bel _⟩
          case measure => simp [intOf]; omega
        · have HN := Lib.hid (show ¬ l = r from fun h => hxy (by rw [h, hy] at hx; exact (Option.some.inj hx).symm))
          have t2 : (x != y) = true := by simp [hxy]
          have t3 : (x == y) = false := by simp [hxy]
          clear hx hy hxy
          go_wp2
          go_quiet (fail)
          go_wp2
          go_ret
          exact ⟨ret_eq (congrArg Value.bool (decide_eq_false HN.out).symm), bel_drawN bel _⟩
      · obtain rfl : j = m := by omega
        have HN := Lib.hid (show l = r from ext_get HM.out HQ.out HE.out)
        have t1 : decide ((j : Int) < j) = false := by simp
        go_wp2
        go_ret
        exact ⟨ret_eq (congrArg Value.bool (decide_eq_true HN.out).symm), bel⟩
  · have HN := Lib.hid (show ¬ l = r from fun h => hmq (by rw [← HM.out, ← HQ.out, h]))
    have t0 : ((m : Int) != q) = true := by simp; omega
    go_enter Try.func36, Try.ntmps36
    go_wp2
    go_ret
    exact ⟨ret_eq (congrArg Value.bool (decide_eq_false HN.out).symm), Below.refl _ _⟩
theorem equI_same (A B : Option Addr) (m c d : Nat) (l : List Int) (w : World) (hm : l.length = m) (hx : m ≤ 100000) (hl : KI.Rd w A l) (hr : KI.Rd w B l) :
    Calls Try.prog 36 #[.slice A m c, .slice B m d] w fun e w' => e = .returned (.bool true) ∧ Below w.heap.size w w' := by
  have h := equI A B m c m d l l w hm hm hx hx hl hr
  rw [decide_eq_true rfl] at h
  exact h
section
variable {w : World} {x bm p : Nat} {q : Option Nat} {bl : Nat} {f : Cf} {l : List Int} {g : Ge} {M : Wm}
/-- a list is this one -/
theorem listQ (hT : Tt w x bm p q bl f l g M) (v u : Int) (hv : I64 v) (hh : hasB g v u = true) {A : Option Addr} {m c : Nat} {want : List Int} (hw : KI.Rd w A want) (hm : want.length = m) (he : ls g M v u = want) : Calls Try.prog 9 #[.pointer (some ⟨x, 0, none⟩), .int .i64 v, .int .i64 u, .slice A m c] w fun e w' => e = .returned (.bool true) ∧ Below w.heap.size w w' := by
  have CL := list_any hT v u hv
  have hlen := ls_len g M v u
  have htt := hT.ok.tt
  rw [he] at hlen
  have hm1 : m ≤ 100000 := by omega
  unfold LsP at CL
  rw [hh, he] at CL
  replace CL := Lib.hid CL
  have HW := Lib.hid hw
  have HM := Lib.hid hm
  clear hT hv hh he hw hlen htt
  go_enter Try.func9, Try.ntmps9
  go_wp2_with fail
  refine CL.out.mono ?_
  rintro r1 W1 (⟨_, A1, c1, rfl, rd, hb1⟩ | ⟨e, _⟩)
  · rw [HM.out]
    have CQ := Lib.hid (equI_same A1 A m c1 c want W1 HM.out hm1 rd (HW.out.below hb1))
    have HB1 := Lib.hid hb1
    clear rd hb1 HM
    go_wp2_with fail
    refine CQ.out.mono ?_
    rintro r1 W2 ⟨rfl, hb2⟩
    have HB2 := Lib.hid (HB1.out.trans (hb2.mono HB1.out.size))
    clear hb2
    go_wp2
    go_ret
    exact ⟨rfl, HB2.out⟩
  · cases e
end
/-- the configuration of the chapter's examples -/
def fsm : Cf := ⟨1, 2, 2, 0, 2, 2, none, 0, 0, fun i => if i = 0 then 2 else if i = 1 then 1 else 0, 1, 1, 0⟩
def gS : Ge := geo fsm []
theorem fsm_gd : Gd fsm := by
  have i2 : I64 2 := by constructor <;> decide
  have i1 : I64 1 := by constructor <;> decide
  have i0 : I64 0 := by constructor <;> decide
  have u2 : (0 : Int) ≤ 2 ∧ (2 : Int) ≤ 255 := by decide
  refine ⟨⟨i1, i2, u2, i0, u2, i2, fun i hi => ?_, i1, i1, i0, rfl, Nat.zero_le _, fun k hk => (by simp at hk), fun _ => rfl⟩, by decide +kernel⟩
  show I64 (if i = 0 then 2 else if i = 1 then 1 else 0)
  split
  · exact i2
  · split
    · exact i1
    · exact i0
theorem gS_pW : pW gS = 53 := by decide +kernel
def L10 : List (Nat × Int) := [(34, 4), (35, 40), (38, 1), (46, 6), (47, 60), (48, 61), (50, 5), (21, 1), (39, 3), (22, 3)]
def stN : List (Nat × Int) → Wm → Wm
  | [], M => M
  | x :: l, M => stN l (M.stor 0 (x.1 : Nat) x.2)
theorem stN_snoc (x : Nat × Int) : ∀ (l : List (Nat × Int)) (M : Wm), stN (l ++ [x]) M = (stN l M).stor 0 (x.1 : Nat) x.2
  | [], M => rfl
  | y :: l, M => stN_snoc x l _
theorem stN_log : ∀ (l : List (Nat × Int)) (M : Wm), (stN l M).L.length = M.L.length + l.length
  | [], M => rfl
  | y :: l, M => by rw [stN, stN_log l, stor_log, List.length_cons]; omega
/-- the words of the chapter's examples -/
def smM : Wm := stN L10 ⟨Ly.ini gS, []⟩
theorem L10_bd (i : Nat) (y : Nat × Int) (h : L10[i]? = some y) : y.1 < 53 ∧ 0 ≤ y.2 ∧ y.2 ≤ 61 := by
  have : ∀ z ∈ L10, z.1 < 53 ∧ 0 ≤ z.2 ∧ z.2 ≤ 61 := by decide
  exact this y (List.mem_of_getElem? h)
theorem lit_at {w : World} {b : Nat} {ty : TypeId} (h : w.heap[b]? = some (.cells #[.int .u64 34, .int .u64 4, .int .u64 35, .int .u64 40, .int .u64 38, .int .u64 1, .int .u64 46, .int .u64 6, .int .u64 47, .int .u64 60, .int .u64 48, .int .u64 61, .int .u64 50, .int .u64 5, .int .u64 21, .int .u64 1, .int .u64 39, .int .u64 3, .int .u64 22, .int .u64 3] ty (0, 0))) (i : Nat) (y : Nat × Int) (hi : L10[i]? = some y) : w.cell? ⟨b, i * 2, none⟩ = some (.int .u64 (y.1 : Nat)) ∧ w.cell? ⟨b, i * 2 + 1, none⟩ = some (.int .u64 y.2) := by
  have hl : i < 10 := (List.getElem?_eq_some_iff.1 hi).1
  have c : ∀ k v, (#[.int .u64 34, .int .u64 4, .int .u64 35, .int .u64 40, .int .u64 38, .int .u64 1, .int .u64 46, .int .u64 6, .int .u64 47, .int .u64 60, .int .u64 48, .int .u64 61, .int .u64 50, .int .u64 5, .int .u64 21, .int .u64 1, .int .u64 39, .int .u64 3, .int .u64 22, .int .u64 3] : Array Value)[k]? = some v → w.cell? ⟨b, k, none⟩ = some v := fun k v hv => by simp [World.cell?, h, hv]
  rcases (show i = 0 ∨ i = 1 ∨ i = 2 ∨ i = 3 ∨ i = 4 ∨ i = 5 ∨ i = 6 ∨ i = 7 ∨ i = 8 ∨ i = 9 by omega) with rfl | rfl | rfl | rfl | rfl | rfl | rfl | rfl | rfl | rfl <;> (simp [L10] at hi; subst hi; exact ⟨c _ _ rfl, c _ _ rfl⟩)
theorem Bn.made1 {w2 w4 w7 : World} {bl bm p x : Nat} {f : Cf} {l : List Int} {g : Ge} {M : Wm} (hl : LyAt w2 bl f l g) (b24 : Below w2.heap.size w2 w4) (hm : At 155 w4 bm p none M) (h1 : w2.heap.size ≤ bm) (h2 : w2.heap.size ≤ p) (b47 : Below w4.heap.size w4 w7) (hx : w4.heap.size ≤ x) (ht : Tt w7 x bm p none bl f l g M) :
    ∃ c, Bn w7 c x bm bl f l g M ∧ ∀ i, i < w2.heap.size → c i = 0 := by
  have lb : bm < w4.heap.size := hm.lt bm (.inl rfl)
  have lp : p < w4.heap.size := hm.lt p (.inr (.inl rfl))
  have s24 := b24.size
  have s47 := b47.size
  obtain ⟨c, hc⟩ : ∃ c : Nat → Nat, c = fun i => if i < w2.heap.size then 0 else if i = bm ∨ i = p then 1 else 7 := ⟨_, rfl⟩
  have c0 : ∀ i, i < w2.heap.size → c i = 0 := fun i hi => by rw [hc]; exact if_pos hi
  have c1 : ∀ i, w2.heap.size ≤ i → (i = bm ∨ i = p) → c i = 1 := fun i hi e => by rw [hc]; show (if _ then _ else _) = _; rw [if_neg (by omega), if_pos e]
  have c7 : c x = 7 := by rw [hc]; show (if _ then _ else _) = _; rw [if_neg (by omega), if_neg (by omega)]
  refine ⟨c, ⟨ht.c0, ht.c1, c7, ⟨p, none, ht.m, fun i hi => ?_⟩, ⟨w2, hl, b24.trans (b47.mono s24), c0⟩, ht.ok, ht.n⟩, c0⟩
  rcases hi with e | e | e
  · have e' : i = bm := e
    exact c1 i (by omega) (.inl e')
  · have e' : i = p := e
    exact c1 i (by omega) (.inr e')
  · cases e
/-- what small hands out -/
def SmP (w : World) (e : Ending) (w' : World) : Prop :=
  ∃ c x bm bl f', e = .returned (.pointer (some ⟨x, 0, none⟩)) ∧ Bn w' c x bm bl f' [] gS smM ∧ (∀ i, i < w.heap.size → c i = 0) ∧ Below w.heap.size w w'
set_option maxHeartbeats 8000000 in
theorem small_any (w : World) : Calls Try.prog 8 #[] w (SmP w) := by
  have hgd := fsm_gd
  have C2 := fun W => newL hgd W
  have hpw := gS_pW
  rw [show geo fsm [] = gS from rfl] at C2
  have gok : gS.ok := hgd.gok
  unfold cfgV at C2
  have C2 := fun W => Lib.hid (show Calls Try.prog 33 #[.agg #[.int .i64 1, .int .i64 2, .int .u8 2, .int .i64 0, .int .u8 2, .int .i64 2, .slice none 0 0, .int .i64 2, .int .i64 1, .int .i64 0, .int .i64 0, .int .i64 0, .int .i64 0, .int .i64 1, .int .i64 1, .int .i64 0]] W fun e w' => ∃ b f', e = .returned (.tuple #[.pointer (some ⟨b, 0, none⟩), .int .i64 0]) ∧ LyAt w' b f' [] gS ∧ Below W.heap.size W w' from C2 W)
  have HG := Lib.hid gok
  have HP := Lib.hid hpw
  clear hgd gok hpw
  have HSP := Lib.hid (show ∀ (w : World) (e : Ending) (w' : World), (∃ c x bm bl f', e = .returned (.pointer (some ⟨x, 0, none⟩)) ∧ Bn w' c x bm bl f' [] gS (stN L10 ⟨Ly.ini gS, []⟩) ∧ (∀ i, i < w.heap.size → c i = 0) ∧ Below w.heap.size w w') → SmP w e w' from fun w e w' h => h)
  generalize gS = g at *
  go_enter Try.func8, Try.ntmps8
  go_wp2_with fail
  have HCX := Lib.hid (bel_alloc (Below.refl w.heap.size w) (.cells #[.int .i64 1, .int .i64 2, .int .u8 2, .int .i64 0, .int .u8 2, .int .i64 2, .slice none 0 0, .int .i64 2, .int .i64 1, .int .i64 0, .int .i64 0, .int .i64 0, .int .i64 0, .int .i64 1, .int .i64 1, .int .i64 0] 87))
  refine (C2 _).out.mono ?_
  rintro r1 W3 ⟨bl, f', rfl, hl, hb3⟩
  have HB3 := Lib.hid (HCX.out.trans (hb3.mono HCX.out.size))
  have HL := Lib.hid hl
  have CI := Lib.hid (Ly.initial_any HL.out HG.out)
  clear hb3 hl C2 HCX
  go_wp2_with fail
  refine CI.out.mono ?_
  rintro r1 W6 ⟨rfl, hrow, hb6⟩
  have CM := Lib.hid (newM HG.out (by rw [HP.out]; omega) (by rw [HP.out]; omega) hrow)
  have HB6 := Lib.hid hb6
  clear hb6 hrow CI
  go_wp2_with fail
  refine CM.out.mono ?_
  rintro r1 W7 ⟨bm, p, rfl, hm, hbm, hp, hb7⟩
  have HB7 := Lib.hid (HB6.out.trans (hb7.mono HB6.out.size))
  have HM := Lib.hid hm
  have HBM := Lib.hid (Nat.le_trans HB6.out.size hbm)
  have HBP := Lib.hid (Nat.le_trans HB6.out.size hp)
  have CP := Lib.hid (newT HM.out (HL.out.below HB7.out) HG.out (Ly.ini_len _))
  clear hb7 hm hbm hp CM HB6
  go_wp2_with fail
  refine CP.out.mono ?_
  rintro r1 W10 ⟨x, hx, rfl, htt, hb10⟩
  obtain ⟨c, hbn, hlow⟩ := Bn.made1 HL.out HB7.out HM.out HBM.out HBP.out hb10 hx htt
  have HB10 := Lib.hid (HB3.out.trans ((HB7.out.trans (hb10.mono HB7.out.size)).mono HB3.out.size))
  have hlow0 : ∀ i, i < w.heap.size → c i = 0 := fun i hi => hlow i (Nat.lt_of_lt_of_le hi HB3.out.size)
  obtain ⟨WL, hWL⟩ : ∃ W, W = W10.alloc (.cells #[.int .u64 34, .int .u64 4, .int .u64 35, .int .u64 40, .int .u64 38, .int .u64 1, .int .u64 46, .int .u64 6, .int .u64 47, .int .u64 60, .int .u64 48, .int .u64 61, .int .u64 50, .int .u64 5, .int .u64 21, .int .u64 1, .int .u64 39, .int .u64 3, .int .u64 22, .int .u64 3] 100) := ⟨_, rfl⟩
  have bL : Below W10.heap.size W10 WL := by rw [hWL]; exact bel_alloc (Below.refl _ _) _
  have fL : Fc (fun _ => False) W10 c WL (up c W10.heap.size 30) := Fc.of_below_up bL
  have hLT : WL.heap[W10.heap.size]? = some (.cells #[.int .u64 34, .int .u64 4, .int .u64 35, .int .u64 40, .int .u64 38, .int .u64 1, .int .u64 46, .int .u64 6, .int .u64 47, .int .u64 60, .int .u64 48, .int .u64 61, .int .u64 50, .int .u64 5, .int .u64 21, .int .u64 1, .int .u64 39, .int .u64 3, .int .u64 22, .int .u64 3] 100 (0, 0)) := by rw [hWL]; exact heap_alloc_new W10 _
  have hLC : up c W10.heap.size 30 W10.heap.size = 30 := up_ge (Nat.le_refl _)
  have hLL : W10.heap.size < WL.heap.size := by rw [hWL, World.size_alloc]; omega
  have HBN := Lib.hid (hbn.fc fL id id id)
  have HLO := Lib.hid (fL.low HB10.out.size hlow0)
  have HBL := Lib.hid (HB10.out.trans (bL.mono HB10.out.size))
  have HLT := Lib.hid hLT
  have HLC := Lib.hid hLC
  have HLL := Lib.hid hLL
  have HWL := Lib.hid hWL
  obtain ⟨lb, hlb⟩ : ∃ b, b = W10.heap.size := ⟨_, rfl⟩
  have HLB := Lib.hid hlb
  generalize up c W10.heap.size 30 = c1 at HBN HLO HLC
  rw [← hlb] at HLT HLC HLL
  obtain ⟨M0, hM0⟩ : ∃ M0, M0 = (⟨Ly.ini g, []⟩ : Wm) := ⟨_, rfl⟩
  rw [← hM0] at HBN
  have HM0L := Lib.hid (show M0.L.length = 0 by rw [hM0]; rfl)
  have HFIN := Lib.hid (show stN L10 M0 = stN L10 ⟨Ly.ini g, []⟩ by rw [hM0])
  clear hb10 hx htt hbn hlow hlow0 CP HB7 HM HBM HBP HL HB3 bL fL hLT hLC hLL hWL HB10 hM0 hlb
  go_upto_region 12 with fail
  rw [← HWL.out, ← HLB.out]
  go_loopw [54] (fun vi wr => ∃ (i : Nat) (c' : Nat → Nat), vi = .int .i64 (i : Int) ∧ i ≤ 10 ∧ Bn wr c' x bm bl f' [] g (stN (L10.take i) M0) ∧ Fc (fun j => j = 1) WL c1 wr c') (fun vi _ => (10 - intOf vi).toNat)
  case atStart => exact ⟨0, c1, rfl, Nat.zero_le _, HBN.out, Fc.id _ _ _⟩
  case round =>
    obtain ⟨i, c', rfl, hi, hbn, hfc⟩ := hrel
    clear HBN
    by_cases hlt : i < 10
    · have e0 : decide ((i : Int) < 10) = true := decide_eq_true (by omega)
      have e0' : decide (i < 10) = true := decide_eq_true hlt
      have hw1 : IntKind.i64.wrap ((i : Int) + 1) = (i : Int) + 1 := IntWalk.i64_in _ (by omega)
      have i1 : (i : Int) < 10 := by omega
      have i2 : (0 : Int) ≤ (i : Int) := by omega
      obtain ⟨y, hy⟩ : ∃ y, L10[i]? = some y := ⟨_, List.getElem?_eq_getElem (show i < L10.length from hlt)⟩
      obtain ⟨y1, y2, y3⟩ := L10_bd i y hy
      have hblk := hfc.keep HLL.out (by rw [HLC.out]; omega)
      obtain ⟨q0, q1⟩ := lit_at (hblk.trans HLT.out) i y hy
      obtain ⟨a, v⟩ := y
      dsimp only at y1 y2 y3 q0 q1
      have hML : (stN (L10.take i) M0).L.length ≤ 50000 := by rw [stN_log, HM0L.out, List.length_take]; omega
      have hM2 : stN (L10.take (i + 1)) M0 = (stN (L10.take i) M0).stor 0 (a : Nat) v := by
        rw [List.take_add_one, hy]
        exact stN_snoc _ _ _
      have a1 : IntKind.i64.wrap (a : Int) = (a : Int) := IntWalk.i64_in _ (by omega)
      obtain ⟨WX, hWX⟩ : ∃ W, W = wr.alloc (.cells #[.int .u64 (a : Int), .int .u64 v] 100) := ⟨_, rfl⟩
      have bX : Below wr.heap.size wr WX := by rw [hWX]; exact bel_alloc (Below.refl _ _) _
      have CS := Lib.hid ((hbn.below bX).store hML 0 v a (by omega) (by rw [HP.out]; exact y1) y2 (by omega))
      have FX := Lib.hid (hfc.trans (Fc.of_below (S := fun j => j = 1) (c := c') bX))
      have HM2 := Lib.hid hM2
      have HWX := Lib.hid hWX
      clear hML hM2 hWX bX hbn hfc hblk hy y1 y2 y3
      go_wp2_with fail
      rw [← HWX.out]
      refine CS.out.mono ?_
      rintro r1 W2 ⟨rfl, c2, hbn2, f12⟩
      have HB2 := Lib.hid hbn2
      have F12 := Lib.hid (FX.out.trans f12)
      clear hbn2 f12 CS
      go_wp2
      go_roundw
      case rel => exact ⟨i + 1, c2, by go_num, by omega, by rw [HM2.out]; exact HB2.out, F12.out⟩
      case measure => simp [intOf]; omega
    · obtain rfl : i = 10 := by omega
      have e0 : decide (((10 : Nat) : Int) < 10) = false := by decide
      have HB2 := Lib.hid hbn
      have H1 := Lib.hid (hfc.low HBL.out.size HLO.out)
      have H2 := Lib.hid (HBL.out.trans (hfc.below HBL.out.size HLO.out (by omega)))
      clear hbn hfc
      go_wp2
      go_ret
      exact HSP.out _ _ _ ⟨_, x, bm, bl, f', rfl, (by have q := HB2.out; rw [show L10.take 10 = L10 from rfl, HFIN.out] at q; exact q), H1.out, H2.out⟩
end Tw
end Go.Proofs.Ytjcbjbhlclajnaa
