/- Apply of leapfrogref06: contracts of the translated code. Conditions: at most 400 pairs, 400 changes; the bounds of uint64. -/
import Derived.Test.YtbdllakbkienoaaPlN
namespace Go.Proofs.Ytbdllakbkienoaa
open Go.RowKit Go.Sort
set_option linter.unusedVariables false
set_option linter.unusedSimpArgs false
namespace Pl
open Om (addr_lit bel_alloc bel_trans below_drewN ret_eq Asc MapAt getL setL outL Fresh Opn putR_any delR_any pT)
def put1R (p : List Om.Pr) (x : Rc) : List Om.Pr := if x.i = true then setL p (x.k, x.n) else outL p x.k x.k
def appR (p : List Om.Pr) (l : List Rc) : List Om.Pr := l.foldl put1R p
theorem appR_take {p : List Om.Pr} {l : List Rc} {j : Nat} {x : Rc} (h : l[j]? = some x) : appR p (l.take (j + 1)) = put1R (appR p (l.take j)) x := by
  rw [take_succ' h]; unfold appR; rw [List.foldl_append]; rfl
theorem arg_no (A B : Option Addr) (n c m d : Nat) (p : List Om.Pr) (l : List Rc) (w : World) (hn : p.length = n) (hm : l.length = m) (hs : n ≤ 400) (hs2 : m ≤ 400) (hr : Om.Rd w A p) (hr2 : Rd w B l) (h : ¬ (Asc p ∧ chk l)) :
    Calls Try.prog 19 #[.slice A n c, .slice B m d] w fun e w' => e = .returned (.tuple #[.slice none 0 0, .int .i64 2]) ∧ Below w.heap.size w w' := by
  by_cases ha : Asc p
  · have CA := Lib.hid (ascR_any A n c p w hn (by omega) hr true ⟨fun _ => ha, fun _ => rfl⟩)
    have hk : ¬ chk l := fun q => h ⟨ha, q⟩
    have CK := fun W (b : Below w.heap.size w W) => Lib.hid (checkR_any B m d l W hm (by omega) (hr2.below b) false ⟨fun q => by (cases q), fun q => absurd q hk⟩)
    unfold eT at CK
    clear hr hr2 h
    go_enter Try.func19, Try.ntmps19
    go_wp2_with fail
    refine CA.out.mono ?_
    rintro r W1 ⟨rfl, b1⟩
    go_wp2_with fail
    refine (CK _ b1).out.mono ?_
    rintro r W2 ⟨rfl, b2⟩
    go_wp2
    go_ret2
    exact ⟨rfl, bel_trans b1 b2⟩
  · have CA := Lib.hid (ascR_any A n c p w hn (by omega) hr false ⟨fun q => by (cases q), fun q => absurd q ha⟩)
    clear hr hr2 h
    go_enter Try.func19, Try.ntmps19
    go_wp2_with fail
    refine CA.out.mono ?_
    rintro r W1 ⟨rfl, b1⟩
    go_wp2
    go_ret2
    exact ⟨rfl, b1⟩
theorem state_no (A B : Option Addr) (n c m d : Nat) (p : List Om.Pr) (l : List Rc) (w : World) (hn : p.length = n) (hm : l.length = m) (hs : n ≤ 400) (hs2 : m ≤ 400) (hr : Om.Rd w A p) (hr2 : Rd w B l) (ha : Asc p) (hk : chk l) (h : ¬ ∀ x, x ∈ l → fit1 p x) :
    Calls Try.prog 19 #[.slice A n c, .slice B m d] w fun e w' => e = .returned (.tuple #[.slice none 0 0, .int .i64 8]) ∧ Below w.heap.size w w' := by
  have CA := Lib.hid (ascR_any A n c p w hn (by omega) hr true ⟨fun _ => ha, fun _ => rfl⟩)
  have CK := fun W (b : Below w.heap.size w W) => Lib.hid (checkR_any B m d l W hm (by omega) (hr2.below b) true ⟨fun _ => hk, fun _ => rfl⟩)
  have CF := fun W (b : Below w.heap.size w W) => Lib.hid (fitsR_any A B n c m d p l W hn hm (by omega) (by omega) (hr.below b) ha (hr2.below b) false ⟨fun q => by (cases q), fun q => absurd q h⟩)
  unfold eT at CK
  clear hr hr2 h
  go_enter Try.func19, Try.ntmps19
  go_wp2_with fail
  refine CA.out.mono ?_
  rintro r W1 ⟨rfl, b1⟩
  go_wp2_with fail
  refine (CK _ b1).out.mono ?_
  rintro r W2 ⟨rfl, b2⟩
  have b2 := bel_trans b1 b2
  go_wp2_with fail
  refine (CF _ b2).out.mono ?_
  rintro r W3 ⟨rfl, b3⟩
  go_wp2
  go_ret2
  exact ⟨rfl, bel_trans b2 b3⟩
theorem bd_set {l : List Om.Pr} (h : Om.Bd l) {q : Om.Pr} (hq : 0 ≤ q.1 ∧ q.1 ≤ 18446744073709551615 ∧ 0 ≤ q.2 ∧ q.2 ≤ 18446744073709551615) : Om.Bd (setL l q) := fun x hx => by
  rcases (Om.mem_setL l q x).1 hx with rfl | ⟨h', _⟩
  · exact hq
  · exact h x h'
theorem bd_out {l : List Om.Pr} (h : Om.Bd l) (a b : Int) : Om.Bd (outL l a b) := fun x hx => h x (List.mem_filter.1 hx).1
structure Ap (B : Nat) (w0 W : World) (bm : Nat) (v : Value) (p : List Om.Pr) (k : Nat) : Prop where
  m : MapAt W bm v p
  hm : B ≤ bm
  fv : Fresh B v
  bel : Below B w0 W
  hw : B ≤ w0.heap.size
  asc : Asc p
  bd : Om.Bd p
  len : p.length ≤ k
theorem Ap.op {B k : Nat} {w0 W W' : World} {bm : Nat} {v : Value} {p p' : List Om.Pr} {t : Value} {e : Ending} (h : Ap B w0 W bm v p k) (o : Opn W bm v p' t e W') (ha : Asc p') (hb : Om.Bd p') (hl : p'.length ≤ k + 1) : ∃ v', e = .returned t ∧ Ap B w0 W' bm v' p' (k + 1) := by
  obtain ⟨v', he, hm', hn', hc⟩ := o
  have hs := Nat.le_trans h.hw h.bel.size
  have hbW : Below B W W' := hc.below h.hm h.fv hs
  exact ⟨v', he, hm', h.hm, fun q hq => by rcases hn' q hq with e | e; exact h.fv q e; omega, h.bel.trans hbW, h.hw, ha, hb, hl⟩
theorem Ap.drew {B k : Nat} {w0 W : World} {bm : Nat} {v : Value} {p : List Om.Pr} (h : Ap B w0 W bm v p k) : Ap B w0 W.drew bm v p k := ⟨h.m, h.hm, h.fv, ⟨h.bel.os, h.bel.tape, h.bel.output, h.bel.size, h.bel.block⟩, h.hw, h.asc, h.bd, h.len⟩
theorem row_up {w : World} {B B' n : Nat} {t : TypeId} {v : Value} {xs : List Value} (h : w.ownsRow B t 2 v n xs) (hf : Fresh B' v) : w.ownsRow B' t 2 v n xs := by
  refine ⟨h.1, ?_⟩
  rcases h.2 with h' | ⟨g, cap, cur, e, hb, r⟩
  · exact .inl h'
  · exact .inr ⟨g, cap, cur, e, hf g (by rw [e]; rfl), r⟩
set_option maxRecDepth 100000 in
set_option maxHeartbeats 2000000 in
theorem app_ok (A B : Option Addr) (n c m d : Nat) (p : List Om.Pr) (l : List Rc) (w : World) (hn : p.length = n) (hm : l.length = m) (hs : n ≤ 400) (hs2 : m ≤ 400) (hr : Om.Rd w A p) (hr2 : Rd w B l) (hz : A = none → c = 0) (hb : Om.Bd p) (hbl : Bd l) (ha : Asc p) (hk : chk l) (hf : ∀ x, x ∈ l → fit1 p x) :
    Calls Try.prog 19 #[.slice A n c, .slice B m d] w fun e w' => ∃ v, e = .returned (.tuple #[v, .int .i64 0]) ∧ w'.ownsRow w.heap.size 43 2 v (appR p l).length (Om.flat (appR p l)) ∧ Below w.heap.size w w' := by
  subst hn
  have CA := Lib.hid (ascR_any A _ c p w rfl (by omega) hr true ⟨fun _ => ha, fun _ => rfl⟩)
  have CK := fun W (b : Below w.heap.size w W) => Lib.hid (checkR_any B m d l W hm (by omega) (hr2.below b) true ⟨fun _ => hk, fun _ => rfl⟩)
  have CF := fun W (b : Below w.heap.size w W) => Lib.hid (fitsR_any A B _ c m d p l W rfl hm (by omega) (by omega) (hr.below b) ha (hr2.below b) true ⟨fun _ => hf, fun _ => rfl⟩)
  unfold eT at CK
  have HR := Lib.hid hr; have HR2 := Lib.hid hr2; have HM := Lib.hid hm; have HBL := Lib.hid hbl; have HBP := Lib.hid hb; have HA := Lib.hid ha; have HS := Lib.hid hs; have HZ := Lib.hid hz
  clear hr hr2 hm hbl hb ha hs hk hf hz
  have hz2 : (m : Int) ≤ 400 := by omega
  go_enter Try.func19, Try.ntmps19
  go_wp2_with fail
  refine CA.out.mono ?_
  rintro r W1 ⟨rfl, b1⟩
  go_wp2_with fail
  refine (CK _ b1).out.mono ?_
  rintro r W2 ⟨rfl, b2⟩
  have b2 := bel_trans b1 b2
  go_wp2_with fail
  refine (CF _ b2).out.mono ?_
  rintro r W3 ⟨rfl, b3⟩
  have B3 := Lib.hid (bel_trans b2 b3)
  have HR3 := Lib.hid (HR.out.below B3.out)
  clear b1 b2 b3 CA CK CF HR
  go_wp2_with (at_builtin; refine Om.appAll rfl (.tmp 20) (.tmp 21) rfl W3 A p.length c p rfl rfl rfl (by have := HS.out; omega) HR3.out HZ.out ?_; intro v1 w1 h1 b1; obtain ⟨_, A', c', e', _⟩ := Om.row_form h1; subst e'; have H1 := Lib.hid h1; clear h1)
  have hsz := B3.out.size
  have hne : ∀ k, (Value.slice A' p.length c').ownBlock = some k → k ≠ w1.heap.size := fun k hk => by have := (H1.out.lt k hk).2; omega
  have AP0 := Lib.hid (show Ap w.heap.size w (w1.alloc (.cells #[.slice A' p.length c'] 72)) w1.heap.size (.slice A' p.length c') p (p.length + 0) from
    ⟨⟨by simp, by simp, Om.row_base (H1.out.alloc _) (Nat.zero_le _), fun e => hne _ e rfl⟩, Nat.le_trans hsz b1.size, fun k hk => Nat.le_trans hsz (Om.row_fresh H1.out k hk), bel_trans B3.out (bel_alloc b1 _), Nat.le_refl _, HA.out, HBP.out, Nat.le_refl _⟩)
  generalize w1.alloc (.cells #[.slice A' p.length c'] 72) = w2 at *
  generalize w1.heap.size = bm at *
  clear H1 hne hsz b1 HR3 B3
  go_loopw [7] (fun i wr => ∃ (j : Nat) (u : Value), j ≤ m ∧ i = .int .i64 j ∧ Ap w.heap.size w wr bm u (appR p (l.take j)) (p.length + j)) (fun i _ => (m - intOf i).toNat)
  case atStart => exact ⟨0, _, Nat.zero_le _, rfl, AP0.out⟩
  case round =>
    clear AP0
    obtain ⟨j, u, hj, rfl, hap⟩ := hrel
    have AP := Lib.hid hap; clear hap
    have LEN := Lib.hid (show (appR p (l.take j)).length ≤ 1000 by have := AP.out.len; have := HS.out; omega)
    by_cases hlt : j < m
    · obtain ⟨x, hx, hmem⟩ := getElem?_lt HM.out hlt
      obtain ⟨b1, o, rfl, g0, g1, g2, g3, g4⟩ := (HR2.out.below AP.out.bel) j x hx
      have BX := Lib.hid (HBL.out x hmem)
      have HT := Lib.hid (appR_take (p := p) hx)
      have u0 : decide ((j : Int) < m) = true := decide_eq_true (by omega)
      have hji : (j : Int) < m := by omega
      clear hx hmem
      generalize appR p (l.take j) = P at *
      obtain ⟨xk, xw, xo, xi, xn⟩ := x
      simp only at g0 g1 g2 g3 g4
      cases xi
      · go_wp2_with fail
        refine (delR_any bm u P xk wr AP.out.m AP.out.asc AP.out.bd LEN.out BX.out.k0 BX.out.k1).mono ?_
        intro r w4 h
        obtain ⟨u', rfl, hap⟩ := AP.out.op h (AP.out.asc.filter _) (bd_out AP.out.bd _ _) (by have := Om.in_out_len P xk xk; have := AP.out.len; omega)
        have AP := Lib.hid hap; clear hap h
        go_wp2
        go_roundw
        case rel => exact ⟨j + 1, u', by omega, by go_num, by rw [HT.out]; exact AP.out⟩
        case measure => simp [intOf]; omega
      · have CS := Lib.hid (putR_any bm u P xk xn wr.drew AP.out.m AP.out.asc LEN.out)
        go_wp2
        go_still_tail 11, (by kernel_rfl)
        change wpList _ _ _ _ _ wr.drew
        have AP := Lib.hid AP.out.drew
        generalize wr.drew = w3 at *
        go_wp2_with fail
        refine CS.out.mono ?_
        intro r w4 h
        obtain ⟨u', rfl, hap⟩ := AP.out.op h (Om.setL_asc AP.out.asc _) (bd_set AP.out.bd ⟨BX.out.k0, BX.out.k1, BX.out.n0, BX.out.n1⟩) (by have := Om.setL_len_le P (xk, xn); have := AP.out.len; omega)
        have AP := Lib.hid hap; clear hap h CS
        go_wp2
        go_roundw
        case rel => exact ⟨j + 1, u', by omega, by go_num, by rw [HT.out]; exact AP.out⟩
        case measure => simp [intOf]; omega
    · obtain rfl : j = m := by omega
      have u0 : decide ((j : Int) < j) = false := decide_eq_false (by omega)
      have HT := Lib.hid (show l.take j = l from List.take_of_length_le (by rw [HM.out]; omega))
      have AP := Lib.hid (show Ap w.heap.size w wr bm u (appR p l) (p.length + j) from by have h := AP.out; rw [HT.out] at h; exact h)
      have c0 := AP.out.m.1
      obtain ⟨A2, c2, e2, _, _, _⟩ := AP.out.m.rd
      subst e2
      go_wp2
      go_ret2
      refine ⟨_, rfl, ?_, AP.out.bel⟩
      exact row_up AP.out.m.2.2.1 AP.out.fv
end Pl
end Go.Proofs.Ytbdllakbkienoaa
