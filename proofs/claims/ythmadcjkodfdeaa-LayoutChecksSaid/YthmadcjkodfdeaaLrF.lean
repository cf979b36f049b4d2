/- leapfrogref09: Find, Height, Word, Next, Latch, Of: contracts of the translated code. Conditions: those of each lemma. -/
import Derived.Test.YthmadcjkodfdeaaLrM
import Derived.Test.YthmadcjkodfdeaaLyP
import Derived.Test.YthmadcjkodfdeaaLyQ
import Derived.Test.YthmadcjkodfdeaaLrI
import Derived.WalkSpells
import Derived.Laws.StructEq
import Derived.Deep.CutRange
import Derived.BigQuiet
namespace Go.Proofs.Ythmadcjkodfdeaa
open Go.RowKit Go.Sort
set_option linter.unusedVariables false
set_option linter.unusedSimpArgs false
namespace Ly
open Dm (RdK BdU dmB dmE dmN bel_alloc bel_trans cell_lt)
theorem bel_drawN {B : Nat} {a w : World} (h : Below B a w) (n : Nat) : Below B a (w.drewN n) := ⟨h.os, h.tape, h.output, h.size, h.block⟩
theorem bdI (a b : Int) : (a == b) = decide (a = b) := by by_cases h : a = b <;> simp [h]
theorem eqF_step {P : Program} {d : Nat} {xs ys : Array Value} {f : Field} {fs : List Field} {a b : Value} {r r' : Bool} (w : World) (hn : f.name ≠ "_") (p1 : (part f.type xs f.offset).run P w = .ok a w) (p2 : (part f.type ys f.offset).run P w = .ok b w)
    (p3 : (Op.equalIn d f.type a b).run P w = .ok r w) (h' : (Op.eqFields d xs ys fs).run P w = .ok r' w) : (Op.eqFields d xs ys (f :: fs)).run P w = .ok (r && r') w := by
  simp only [Op.eqFields, hn, ne_eq, not_false_eq_true, if_true, Sem.run_bind, p1, p2, p3, Result.andThen_ok]
  cases r
  · simp
  · simpa using h'
set_option maxRecDepth 100000 in
set_option maxHeartbeats 2000000 in
theorem eqPl (x y : Pl) (w : World) : (Op.equalIn 10000 59 (.agg #[.int .u8 x.1, .int .i64 x.2.1, .int .i64 x.2.2]) (.agg #[.int .u8 y.1, .int .i64 y.2.1, .int .i64 y.2.2])).run Try.prog w = .ok (decide (x = y)) w := by
  have u6 := Try.underlying3
  have a6 := Try.isAgg3
  have z6 := Try.sizeOf3
  have u7 := Try.underlying5
  have a7 := Try.isAgg5
  have z7 := Try.sizeOf5
  have hS : Try.prog.underlying 59 = some (.struct (Try.prog.fieldsOf 59)) := by kernel_rfl
  have hp : Try.prog.stoodInHeld 59 = false := by kernel_rfl
  have e : decide (x = y) = (decide (x.1 = y.1) && (decide (x.2.1 = y.2.1) && (decide (x.2.2 = y.2.2) && true))) := by
    obtain ⟨x1, x2, x3⟩ := x
    obtain ⟨y1, y2, y3⟩ := y
    by_cases h1 : x1 = y1 <;> by_cases h2 : x2 = y2 <;> by_cases h3 : x3 = y3 <;> simp [h1, h2, h3]
  rw [e, show (10000 : Nat) = 9999 + 1 from rfl, run_equalIn_agg w 9999 59 _ _ hS hp]
  simp only [Program.fieldsOf, Try.underlying59]
  refine eqF_step w (by decide) (a := .int .u8 x.1) (b := .int .u8 y.1) (by go_simp) (by go_simp) (by go_simp; all_goals (exact bdI _ _)) ?_
  refine eqF_step w (by decide) (a := .int .i64 x.2.1) (b := .int .i64 y.2.1) (by go_simp) (by go_simp) (by go_simp; all_goals (exact bdI _ _)) ?_
  refine eqF_step w (by decide) (a := .int .i64 x.2.2) (b := .int .i64 y.2.2) (by go_simp) (by go_simp) (by go_simp; all_goals (exact bdI _ _)) ?_
  simp [Op.eqFields]
theorem guardPl : Try.prog.eqGuardType Try.prog.depth 59 = false := by kernel_rfl
theorem fnd_ad (g : Ge) (p : Pl) : fnd (whatL (gs g)) p = ad g p.1 p.2.1 p.2.2 := fnd_what (apart g) p
theorem KP_at {w : World} {A : Option Addr} {l : List Pl} (h : KP.Rd w A l) {i : Nat} {x : Pl} (hi : l[i]? = some x) : ∃ b o, A = some ⟨b, o, none⟩ ∧ w.cell? ⟨b, o + i * 3, none⟩ = some (.int .u8 x.1) ∧ w.cell? ⟨b, o + i * 3 + 1, none⟩ = some (.int .i64 x.2.1) ∧ w.cell? ⟨b, o + i * 3 + 2, none⟩ = some (.int .i64 x.2.2) := by
  obtain ⟨b, o, e, c⟩ := h i x hi
  exact ⟨b, o, e, c 0 _ rfl, c 1 _ rfl, c 2 _ rfl⟩
set_option maxRecDepth 100000 in
set_option maxHeartbeats 4000000 in
theorem find_any {w : World} {b : Nat} {g : Ge} (h : RAt w b g) (ok : g.ok) (p : Pl) : Calls Try.prog 45 #[.pointer (some ⟨b, 0, none⟩), .agg #[.int .u8 p.1, .int .i64 p.2.1, .int .i64 p.2.2]] w fun e w' => e = .returned (resp (ad g p.1 p.2.1 p.2.2)) ∧ Below w.heap.size w w' := by
  rw [← fnd_ad]
  obtain ⟨A, c, c27, rd⟩ := h.pr
  have lt := h.lt
  have RD := Lib.hid rd
  have hpw := pW_20 ok
  have HLN := Lib.hid (what_gs_len g)
  obtain ⟨l, hl⟩ : ∃ l, whatL (gs g) = l := ⟨_, rfl⟩
  obtain ⟨N, hN⟩ : ∃ N, pW g = N := ⟨_, rfl⟩
  rw [hl, hN] at HLN
  rw [hN] at c27 hpw
  rw [hl] at RD ⊢
  have C27 := Lib.hid c27
  clear h ok rd hl hN
  have BX := Lib.hid (bel_alloc (Below.refl w.heap.size w) (.cells #[.int .u8 p.1, .int .i64 p.2.1, .int .i64 p.2.2] 59))
  have NB := Lib.hid (heap_new w (.cells #[.int .u8 p.1, .int .i64 p.2.1, .int .i64 p.2.2] 59))
  have hN1 : (N : Int) ≤ 20000 := by omega
  go_enter Try.func45, Try.ntmps45
  go_wp2_with fail
  go_loopw [6] (fun v wr => ∃ i : Nat, i ≤ N ∧ v = .int .i64 i ∧ (∀ j, j < i → l[j]? ≠ some p) ∧ Below (w.alloc (.cells #[.int .u8 p.1, .int .i64 p.2.1, .int .i64 p.2.2] 59)).heap.size (w.alloc (.cells #[.int .u8 p.1, .int .i64 p.2.1, .int .i64 p.2.2] 59)) wr) (fun v _ => N - (intOf v).toNat)
  case atStart => exact ⟨0, Nat.zero_le _, rfl, fun j hj => by omega, Below.refl _ _⟩
  case round =>
    clear c27
    obtain ⟨i, hi, rfl, hno, bel⟩ := hrel
    have NO := Lib.hid hno
    have BE := Lib.hid bel
    have BW := Lib.hid (bel_trans BX.out bel)
    have x27 := (BW.out.cell (p := ⟨b, 27, none⟩) lt).trans C27.out
    have hbs : (w.alloc (.cells #[.int .u8 p.1, .int .i64 p.2.1, .int .i64 p.2.2] 59)).heap[w.heap.size]? = some (.cells #[.int .u8 p.1, .int .i64 p.2.1, .int .i64 p.2.2] 59) := NB.out
    have nb := (bel.block w.heap.size (by rw [World.size_alloc]; omega)).trans hbs
    have b0 := cell_of (j := 0) nb rfl
    have b1 := cell_of (j := 1) nb rfl
    have b2 := cell_of (j := 2) nb rfl
    clear hno bel hbs nb
    by_cases hiN : i < N
    · have d0 : decide ((i : Int) < N) = true := decide_eq_true (by omega)
      have i1 : (i : Int) < N := by omega
      have hil : i < l.length := by rw [HLN.out]; exact hiN
      obtain ⟨x, hx⟩ : ∃ x, l[i]? = some x := ⟨_, List.getElem?_eq_getElem hil⟩
      obtain ⟨bl, ol, rfl, y0, y1, y2⟩ := KP_at (RD.out.below BW.out) hx
      have HX := Lib.hid hx
      clear hx
      obtain ⟨r, hr⟩ : ∃ r, decide (x = p) = r := ⟨_, rfl⟩
      have HRR := Lib.hid hr
      have HEQ : ∀ W, (Op.equalIn 10000 59 (.agg #[.int .u8 x.1, .int .i64 x.2.1, .int .i64 x.2.2]) (.agg #[.int .u8 p.1, .int .i64 p.2.1, .int .i64 p.2.2])).run Try.prog W = .ok r W := fun W => by rw [← hr]; exact eqPl x p W
      have HGP := guardPl
      clear hr
      go_wp2_with fail
      go_cut [26] from 18 to 26 (fun v wx => v = .bool r ∧ Below wr.heap.size wr wx)
      case first =>
        go_quiet (fail)
        go_wp2_with fail
        go_meet
        exact ⟨by first | done | rfl, bel_drawN (Below.refl _ _) _⟩
      case rest =>
        obtain ⟨rfl, bc⟩ := hcut
        by_cases hxp : x = p
        · have e0 : r = true := by rw [← HRR.out]; exact decide_eq_true hxp
          have HF := Lib.hid (show fnd l p = some i from fnd_some (by rw [HX.out, hxp]) NO.out)
          rw [e0]
          clear hxp e0
          go_wp2
          go_ret2
          exact ⟨by rw [HF.out]; rfl, bel_trans BW.out bc⟩
        · have e0 : r = false := by rw [← HRR.out]; exact decide_eq_false hxp
          have HNO := Lib.hid (show ∀ j, j < i + 1 → l[j]? ≠ some p from fun j hj => by
            by_cases e : j < i
            · exact NO.out j e
            · obtain rfl : j = i := by omega
              rw [HX.out]; intro e; injection e with e; exact hxp e)
          rw [e0]
          have BN := Lib.hid (BE.out.trans (bc.mono BE.out.size))
          clear hxp e0 bc b0 b1 b2 x27 y0 y1 y2
          go_wp2_with fail
          go_roundw
          case rel => exact ⟨i + 1, by omega, by go_num, HNO.out, BN.out⟩
          case measure => simp [intOf]; omega
    · obtain rfl : i = N := by omega
      have d0 : decide ((i : Int) < i) = false := by simp
      have HF := Lib.hid (show fnd l p = none from fnd_none (by rw [HLN.out]; exact NO.out))
      go_wp2
      go_ret2
      exact ⟨by rw [HF.out]; rfl, BW.out⟩
theorem resp_fm (o : Option Nat) : ∃ p q : Int, resp o = .tuple #[.int .i64 p, .int .i64 q] := by cases o <;> exact ⟨_, _, rfl⟩
theorem resp_some (a : Nat) : resp (some a) = .tuple #[.int .i64 (a : Nat), .int .i64 0] := rfl
theorem resp_none : resp none = .tuple #[.int .i64 0, .int .i64 3] := rfl
theorem pk_hL (g : Ge) {k j : Nat} (hj : j < 6) (h0 : tot g.t j ≤ k) (h1 : k < tot g.t j + g.t j) : pk g.t ((k : Int) + 1) 6 = j := pk_of g.t 6 hj (by constructor <;> omega)
theorem pk_out (g : Ge) {x : Int} (h : x < 1 ∨ (tot g.t 6 : Int) < x) : pk g.t x 6 = 6 := pk_no g.t 6 fun i hi hx => by
  have := tot_le g.t (i := i) (j := 6) hi
  omega
set_option maxRecDepth 100000 in
set_option maxHeartbeats 4000000 in
theorem heightR_any {w : World} {b : Nat} {g : Ge} (h : RAt w b g) (ok : g.ok) (x : Int) (hx : I64 x) : Calls Try.prog 20 #[.pointer (some ⟨b, 0, none⟩), .int .i64 x] w fun e w' => e = .returned (hgE g x) ∧ Below w.heap.size w w' := by
  obtain ⟨A, c, c26, rd⟩ := h.hr
  have RD := Lib.hid rd
  have htt := ok.tt
  have HGT := Lib.hid (fun k hk => hL_at g.t 6 k hk)
  obtain ⟨TT, hTT⟩ : ∃ TT, tot g.t 6 = TT := ⟨_, rfl⟩
  have HTT := Lib.hid hTT
  rw [hTT] at c26 htt HGT
  clear h ok rd hTT
  by_cases h1 : x < 1
  · have e1 : decide (x < 1) = true := decide_eq_true h1
    have HP := Lib.hid (show hgE g x = .tuple #[.int .i64 0, .int .i64 3] by unfold hgE; rw [pk_out g (.inl h1)]; rfl)
    rw [HP.out]
    go_enter Try.func20, Try.ntmps20
    go_wp2
    go_ret2
    exact ⟨rfl, Below.refl _ _⟩
  · have e1 : decide (x < 1) = false := decide_eq_false h1
    by_cases h2 : x > (TT : Int)
    · have e2 : decide (x > (TT : Int)) = true := decide_eq_true h2
      have HP := Lib.hid (show hgE g x = .tuple #[.int .i64 0, .int .i64 3] by unfold hgE; rw [pk_out g (.inr (by rw [HTT.out]; exact h2))]; rfl)
      rw [HP.out]
      go_enter Try.func20, Try.ntmps20
      go_wp2
      go_ret2
      exact ⟨rfl, Below.refl _ _⟩
    · have e2 : decide (x > (TT : Int)) = false := decide_eq_false h2
      obtain ⟨k, hk⟩ : ∃ k : Nat, x = (k : Int) + 1 := ⟨(x - 1).toNat, by omega⟩
      have hkT : k < TT := by omega
      obtain ⟨j, hj, h3, h4, hgj⟩ := HGT.out k hkT
      obtain ⟨gb, go, rfl, ath⟩ := RD.out k _ hgj
      have xk : w.cell? ⟨gb, go + k, none⟩ = some (.int .i64 ((j + 1 : Nat) : Int)) := by
        have := ath 0 _ rfl
        rw [show KI.sz = 1 from rfl, Nat.mul_one, Nat.add_zero] at this
        exact this
      have HP := Lib.hid (show hgE g x = .tuple #[.int .i64 ((j + 1 : Nat) : Int), .int .i64 0] by unfold hgE; rw [hk, pk_hL g hj h3 h4, if_pos hj])
      rw [HP.out]
      obtain ⟨hh, hhh⟩ : ∃ hh, j + 1 = hh := ⟨_, rfl⟩
      rw [hhh] at xk ⊢
      have a5 : IntKind.i64.wrap (x - 1) = (k : Int) := by rw [IntWalk.i64_in _ (by omega)]; omega
      have k1 : (k : Int) < TT := by omega
      clear h1 h2 h3 h4 hgj ath hhh hk
      go_enter Try.func20, Try.ntmps20
      go_wp2
      go_ret2
      exact ⟨rfl, Below.refl _ _⟩
set_option maxRecDepth 100000 in
set_option maxHeartbeats 4000000 in
theorem wordR_any {w : World} {b : Nat} {g : Ge} (h : RAt w b g) (ok : g.ok) (x u : Int) : Calls Try.prog 22 #[.pointer (some ⟨b, 0, none⟩), .int .i64 x, .int .i64 u] w fun e w' => e = .returned (resp (wdO g x u)) ∧ Below w.heap.size w w' := by
  have C := Lib.hid (find_any h ok (9, x, u))
  clear h ok
  unfold wdO
  by_cases h1 : u < 0
  · have e1 : decide (u < 0) = true := decide_eq_true h1
    rw [if_neg (by omega), resp_none]
    go_enter Try.func22, Try.ntmps22
    go_wp2
    go_ret2
    exact ⟨rfl, Below.refl _ _⟩
  · have e1 : decide (u < 0) = false := decide_eq_false h1
    by_cases h2 : u > 4
    · have e2 : decide (u > 4) = true := decide_eq_true h2
      rw [if_neg (by omega), resp_none]
      go_enter Try.func22, Try.ntmps22
      go_wp2
      go_ret2
      exact ⟨rfl, Below.refl _ _⟩
    · have e2 : decide (u > 4) = false := decide_eq_false h2
      rw [if_pos (by omega)]
      obtain ⟨p, q, hpq⟩ := resp_fm (ad g 9 x u)
      simp only [hpq] at C ⊢
      clear h1 h2 hpq
      go_enter Try.func22, Try.ntmps22
      go_wp2_with fail
      refine C.out.mono ?_
      rintro r w1 ⟨rfl, b1⟩
      go_wp2
      go_ret2
      exact ⟨rfl, b1⟩
set_option maxRecDepth 100000 in
set_option maxHeartbeats 4000000 in
theorem nextR_any {w : World} {b : Nat} {g : Ge} (h : RAt w b g) (ok : g.ok) (r u : Int) (hr : I64 r) : Calls Try.prog 24 #[.pointer (some ⟨b, 0, none⟩), .int .i64 r, .int .i64 u] w fun e w' => e = .returned (resp (nxO g r u)) ∧ Below w.heap.size w w' := by
  have C := Lib.hid (fun p => find_any h ok p)
  clear h ok
  unfold nxO
  by_cases h1 : u < 0
  · have e1 : decide (u < 0) = true := decide_eq_true h1
    rw [if_neg (by omega), resp_none]
    go_enter Try.func24, Try.ntmps24
    go_wp2
    go_ret2
    exact ⟨rfl, Below.refl _ _⟩
  · have e1 : decide (u < 0) = false := decide_eq_false h1
    by_cases h2 : u ≥ 6
    · have e2 : decide (u ≥ 6) = true := decide_eq_true h2
      rw [if_neg (by omega), resp_none]
      go_enter Try.func24, Try.ntmps24
      go_wp2
      go_ret2
      exact ⟨rfl, Below.refl _ _⟩
    · have e2 : decide (u ≥ 6) = false := decide_eq_false h2
      rw [if_pos (by omega)]
      have hr1 := hr.1
      have hr2 := hr.2
      by_cases h3 : r = 0
      · have e3 : (r == 0) = true := by simp [h3]
        have e3' : decide (r = 0) = true := decide_eq_true h3
        rw [if_neg (by omega), if_pos h3, resp_none]
        clear h1 h2 hr
        go_enter Try.func24, Try.ntmps24
        go_wp2
        go_ret2
        exact ⟨rfl, Below.refl _ _⟩
      · have e3 : (r == 0) = false := by simp [h3]
        have e3' : decide (r = 0) = false := decide_eq_false h3
        by_cases h4 : r > 0
        · have e4 : decide (r > 0) = true := decide_eq_true h4
          rw [if_pos (by omega)]
          have a1 : IntKind.i64.wrap (5 + u) = 5 + u := IntWalk.i64_in _ (by omega)
          have CC := Lib.hid (C.out (9, r, 5 + u))
          obtain ⟨p, q, hpq⟩ := resp_fm (ad g 9 r (5 + u))
          simp only [hpq] at CC ⊢
          clear h1 h2 h3 h4 hpq hr C
          go_enter Try.func24, Try.ntmps24
          go_wp2_with fail
          refine CC.out.mono ?_
          rintro r w1 ⟨rfl, b1⟩
          go_wp2
          go_ret2
          exact ⟨rfl, b1⟩
        · have e4 : decide (r > 0) = false := decide_eq_false h4
          rw [if_neg (by omega), if_neg h3]
          have a1 : IntKind.i64.wrap (1 + u) = 1 + u := IntWalk.i64_in _ (by omega)
          have a2 : IntKind.i64.wrap (-1 - r) = -1 - r := IntWalk.i64_in _ (by omega)
          have CC := Lib.hid (C.out (8, -1 - r, 1 + u))
          obtain ⟨p, q, hpq⟩ := resp_fm (ad g 8 (-1 - r) (1 + u))
          simp only [hpq] at CC ⊢
          clear h1 h2 h3 h4 hpq hr C
          go_enter Try.func24, Try.ntmps24
          go_wp2_with fail
          refine CC.out.mono ?_
          rintro r w1 ⟨rfl, b1⟩
          go_wp2
          go_ret2
          exact ⟨rfl, b1⟩
set_option maxRecDepth 100000 in
set_option maxHeartbeats 4000000 in
theorem latchR_any {w : World} {b : Nat} {g : Ge} (h : RAt w b g) (ok : g.ok) (r : Int) (hr : I64 r) : Calls Try.prog 26 #[.pointer (some ⟨b, 0, none⟩), .int .i64 r] w fun e w' => e = .returned (resp (ltO g r)) ∧ Below w.heap.size w w' := by
  have C := Lib.hid (fun p => find_any h ok p)
  clear h ok
  unfold ltO
  have hr1 := hr.1
  have hr2 := hr.2
  by_cases h3 : r = 0
  · have e3 : (r == 0) = true := by simp [h3]
    have e3' : decide (r = 0) = true := decide_eq_true h3
    rw [if_neg (by omega), if_pos h3, resp_none]
    clear hr
    go_enter Try.func26, Try.ntmps26
    go_wp2
    go_ret2
    exact ⟨rfl, Below.refl _ _⟩
  · have e3 : (r == 0) = false := by simp [h3]
    have e3' : decide (r = 0) = false := decide_eq_false h3
    by_cases h4 : r > 0
    · have e4 : decide (r > 0) = true := decide_eq_true h4
      rw [if_pos (by omega)]
      have CC := Lib.hid (C.out (9, r, 3))
      obtain ⟨p, q, hpq⟩ := resp_fm (ad g 9 r 3)
      simp only [hpq] at CC ⊢
      clear h3 h4 hpq hr C
      go_enter Try.func26, Try.ntmps26
      go_wp2_with fail
      refine CC.out.mono ?_
      rintro r w1 ⟨rfl, b1⟩
      go_wp2
      go_ret2
      exact ⟨rfl, b1⟩
    · have e4 : decide (r > 0) = false := decide_eq_false h4
      rw [if_neg (by omega), if_neg h3]
      have a2 : IntKind.i64.wrap (-1 - r) = -1 - r := IntWalk.i64_in _ (by omega)
      have CC := Lib.hid (C.out (8, -1 - r, 0))
      obtain ⟨p, q, hpq⟩ := resp_fm (ad g 8 (-1 - r) 0)
      simp only [hpq] at CC ⊢
      clear h3 h4 hpq hr C
      go_enter Try.func26, Try.ntmps26
      go_wp2_with fail
      refine CC.out.mono ?_
      rintro r w1 ⟨rfl, b1⟩
      go_wp2
      go_ret2
      exact ⟨rfl, b1⟩
set_option maxRecDepth 100000 in
set_option maxHeartbeats 4000000 in
theorem ofR_all {w : World} {b : Nat} {g : Ge} (h : RAt w b g) (ok : g.ok) (a : Int) : Calls Try.prog 28 #[.pointer (some ⟨b, 0, none⟩), .int .i64 a] w fun e w' => e = .returned (plcV (ofZ g a)) ∧ Below w.heap.size w w' := by
  obtain ⟨A, c, c27, rd⟩ := h.pr
  have RD := Lib.hid rd
  have lt := h.lt
  have hpw := pW_20 ok
  have HWA := Lib.hid (fun x hx => whatL_at (gs g) x hx)
  rw [total_gs] at HWA
  have HOUT := Lib.hid (fun x hx => ofL_out (gs g) x hx)
  rw [total_gs] at HOUT
  obtain ⟨N, hN⟩ : ∃ N, pW g = N := ⟨_, rfl⟩
  rw [hN] at c27 hpw HWA HOUT
  clear h ok rd hN
  by_cases h1 : a < 0
  · have e1 : decide (a < 0) = true := decide_eq_true h1
    have HP := Lib.hid (show plcV (ofZ g a) = .agg #[.int .u8 0, .int .i64 0, .int .i64 0] by unfold ofZ; rw [if_neg (by omega)]; rfl)
    rw [HP.out]
    clear h1
    go_enter Try.func28, Try.ntmps28
    go_wp2
    refine bodyPost_ret (v := .agg #[.int .u8 0, .int .i64 0, .int .i64 0]) ?_ rfl ⟨rfl, bel_alloc (Below.refl _ _) _⟩
    simp [results, Try.results28, go_sem]
  · have e1 : decide (a < 0) = false := decide_eq_false h1
    by_cases h2 : a ≥ (N : Int)
    · have e2 : decide (a ≥ (N : Int)) = true := decide_eq_true h2
      have e2' : decide ((N : Int) ≤ a) = true := decide_eq_true h2
      have HP := Lib.hid (show plcV (ofZ g a) = .agg #[.int .u8 0, .int .i64 0, .int .i64 0] by unfold ofZ; rw [if_pos (by omega), HOUT.out a.toNat (by omega)]; rfl)
      rw [HP.out]
      have x27 := fun o => (World.cell?_alloc_old w o ⟨b, 27, none⟩ (by show b ≠ w.heap.size; omega)).trans c27
      clear h1 h2
      go_enter Try.func28, Try.ntmps28
      go_wp2
      refine bodyPost_ret (v := .agg #[.int .u8 0, .int .i64 0, .int .i64 0]) ?_ rfl ⟨rfl, bel_alloc (Below.refl _ _) _⟩
      simp [results, Try.results28, go_sem]
    · have e2 : decide (a ≥ (N : Int)) = false := decide_eq_false h2
      have e2' : decide ((N : Int) ≤ a) = false := decide_eq_false h2
      obtain ⟨x, rfl⟩ : ∃ x : Nat, a = (x : Int) := ⟨a.toNat, by omega⟩
      have hx : x < N := by omega
      have x1 : (x : Int) < N := by omega
      obtain ⟨p, hp⟩ : ∃ p, ofL (gs g) x = p := ⟨_, rfl⟩
      have hw := HWA.out x hx
      rw [hp] at hw
      have HP := Lib.hid (show plcV (ofZ g x) = .agg #[.int .u8 p.1, .int .i64 p.2.1, .int .i64 p.2.2] by unfold ofZ; rw [if_pos (by omega), Int.toNat_natCast, hp]; rfl)
      rw [HP.out]
      have lk := fun o => (World.cell?_alloc_old w o ⟨b, 27, none⟩ (by show b ≠ w.heap.size; omega)).trans c27
      have e3 : decide (N ≤ x) = false := decide_eq_false (by omega)
      obtain ⟨bl, ol, rfl, y0, y1, y2⟩ := KP_at (RD.out.below (bel_alloc (Below.refl _ _) (.cells #[.int .u8 0, .int .i64 0, .int .i64 0] 59))) hw
      clear h1 h2 hp hw
      go_enter Try.func28, Try.ntmps28
      go_wp2
      refine bodyPost_ret (v := .agg #[.int .u8 p.1, .int .i64 p.2.1, .int .i64 p.2.2]) ?_ rfl ⟨rfl, bel_alloc (Below.refl _ _) _⟩
      simp [results, Try.results28, go_sem]
end Ly
end Go.Proofs.Ythmadcjkodfdeaa
