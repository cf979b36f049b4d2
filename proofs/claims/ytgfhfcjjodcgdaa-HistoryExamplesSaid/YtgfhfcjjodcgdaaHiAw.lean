/- leapfroglaw12: example, awake: contracts of the translated code. No conditions. Written by tools/mk12aw.py. -/
import Derived.Test.YtgfhfcjjodcgdaaHiQ
import Derived.Deep.RegionHeld3
namespace Go.Proofs.Ytgfhfcjjodcgdaa
open Go.RowKit Go.Shelf Go.Sort
set_option linter.unusedVariables false
set_option linter.unusedSimpArgs false
namespace Hi
def xC0 : C := ⟨0, 0, 0, 0, 0, 0, 0, 0, 0, 0, 4, 7, 4, 0, false, 0, 0, 0⟩
def xC1 : C := ⟨1, 0, 0, 0, 0, 0, 0, 0, 0, 1, 5, 5, 2, 0, false, 0, 0, 0⟩
def xC2 : C := ⟨0, 1, 0, 0, 0, 0, 0, 0, 0, 8, 10, -1, 0, 0, false, 0, 0, 0⟩
def xC3 : C := ⟨1, 1, 0, 0, 0, 0, 0, 0, 0, 9, -1, -1, 0, 0, false, 0, 0, 0⟩
/-- the history of the chapter's examples -/
def xH : List C := [xC0, xC1, xC2, xC3]
def xW : List C := [⟨0, 0, 0, 0, 0, 0, 0, 0, 0, 0, 4, 1, 4, 0, false, 0, 0, 0⟩, xC1, xC2, xC3]
def xV : List C := [⟨0, 0, 0, 0, 0, 0, 0, 0, 0, 0, 5, 7, 4, 0, false, 0, 0, 0⟩, xC1, xC2, xC3]
def xP : List C := [⟨0, 0, 0, 0, 0, 0, 0, 0, 0, 0, 4, -1, 0, 0, false, 0, 0, 0⟩, ⟨1, 0, 0, 0, 0, 0, 0, 0, 0, 1, -1, -1, 0, 0, false, 0, 0, 0⟩]
theorem xc0 : chkV xH = .tuple #[.int .i64 0, .int .i64 0] := by kernel_rfl
theorem xcW : chkV xW = .tuple #[.int .i64 0, .int .i64 15] := by kernel_rfl
theorem xcV : chkV xV = .tuple #[.int .i64 1, .int .i64 15] := by kernel_rfl
theorem xe0 : erC xH = 0 := by decide +kernel
theorem xwf : WF xH := chk_none.1 (by decide +kernel)
theorem xeff : efL xH = [0, 1, 2] := by
  have h : [0, 1, 2] = eff xH := eff_uniq xwf (by rw [show took xH = [0, 1, 2] by decide +kernel]) (by decide +kernel)
  unfold efL
  rw [if_pos xe0, ← h]; rfl
theorem xb02 : bfr xC0 xC2 = true := by decide +kernel
theorem xb13 : bfr xC1 xC3 = true := by decide +kernel
theorem xb01 : bfr xC0 xC1 = false := by decide +kernel
theorem xb23 : bfr xC2 xC3 = false := by decide +kernel
theorem xb32 : bfr xC3 xC2 = false := by decide +kernel
theorem xa1 : agV xH [1, 0, 3, 2] = true ∧ erA xH [1, 0, 3, 2] = 0 := by decide +kernel
theorem xa2 : agV xH [0, 2, 1] = false ∧ erA xH [0, 2, 1] = 0 := by decide +kernel
theorem xa3 : agV xH [2] = false ∧ erA xH [2] = 0 := by decide +kernel
theorem xp4 : erS 4 xH = 0 := by decide +kernel
theorem xpf : pfL 4 xH = xP := by decide +kernel
theorem xpe : peL xP = [0, 1] := by decide +kernel
theorem xof : (ofT 1 xH).length = 2 := by decide +kernel
theorem bd_lit {l : List C} (h : l.all (fun x => decide (-9223372036854775808 ≤ x.t ∧ x.t ≤ 9223372036854775807 ∧ -9223372036854775808 ≤ x.i ∧ x.i ≤ 9223372036854775807 ∧ (0 ≤ x.k ∧ x.k ≤ 255) ∧ (0 ≤ x.p0 ∧ x.p0 ≤ 18446744073709551615) ∧ (0 ≤ x.p1 ∧ x.p1 ≤ 18446744073709551615) ∧ (0 ≤ x.p2 ∧ x.p2 ≤ 18446744073709551615) ∧ (0 ≤ x.p3 ∧ x.p3 ≤ 18446744073709551615) ∧ (0 ≤ x.p4 ∧ x.p4 ≤ 18446744073709551615) ∧ (0 ≤ x.p5 ∧ x.p5 ≤ 18446744073709551615) ∧ (-9223372036854775808 ≤ x.v ∧ x.v ≤ 9223372036854775807) ∧ (-9223372036854775808 ≤ x.u ∧ x.u ≤ 9223372036854775807) ∧ (-9223372036854775808 ≤ x.a ∧ x.a ≤ 9223372036854775807) ∧ (-9223372036854775808 ≤ x.s ∧ x.s ≤ 9223372036854775807) ∧ (-9223372036854775808 ≤ x.re ∧ x.re ≤ 9223372036854775807) ∧ (0 ≤ x.rk ∧ x.rk ≤ 18446744073709551615) ∧ (0 ≤ x.rv ∧ x.rv ≤ 18446744073709551615) ∧ (-9223372036854775808 ≤ x.rc ∧ x.rc ≤ 9223372036854775807))) = true) : Bd l := fun x hx => by
  have := List.all_eq_true.1 h x hx
  rw [decide_eq_true_eq] at this
  obtain ⟨h1, h2, h3, h4, h5, h6, h7, h8, h9, h10, h11, h12, h13, h14, h15, h16, h17, h18, h19⟩ := this
  exact ⟨⟨h1, h2⟩, ⟨h3, h4⟩, h5, h6, h7, h8, h9, h10, h11, h12, h13, h14, h15, h16, h17, h18, h19⟩
theorem bdH : Bd xH := bd_lit (by decide +kernel)
theorem bdW : Bd xW := bd_lit (by decide +kernel)
theorem bdV : Bd xV := bd_lit (by decide +kernel)
theorem bdP : Bd xP := bd_lit (by decide +kernel)
set_option maxRecDepth 100000 in
theorem example_any (w : World) : Calls Try.prog 27 #[] w (fun e w' => e = .returned (.slice (some ⟨w.heap.size, 0, none⟩) 4 4) ∧ w'.ownsRow w.heap.size KC.E KC.sz (.slice (some ⟨w.heap.size, 0, none⟩) 4 4) xH.length (KC.flat xH) ∧ Below w.heap.size w w') := by
  go_enter Try.func27, Try.ntmps27
  go_wp2
  go_ret
  refine ⟨rfl, ?_, bel_alloc (Below.refl _ _) _⟩
  exact World.ownsRow_lit w (KC.flat xH).toArray 4 (Nat.le_refl _) (by unfold maxLen; omega) rfl
theorem ex_call (w : World) : Calls Try.prog 27 #[] w (fun e w' => ∃ g, e = .returned (.slice (some ⟨g, 0, none⟩) 4 4) ∧ KC.Rd w' (some ⟨g, 0, none⟩) xH ∧ w'.ownsRow w.heap.size KC.E KC.sz (.slice (some ⟨g, 0, none⟩) 4 4) xH.length (KC.flat xH) ∧ w.heap.size ≤ g ∧ Below w.heap.size w w') :=
  (example_any w).mono fun e w' ⟨h1, h2, h3⟩ => ⟨w.heap.size, h1, KC.row_get (n := 4) h2, h2, Nat.le_refl _, h3⟩
theorem sl_call {K : Kd Int} {f : FuncId} {args : Array Value} {w : World} {er : Int} {xs ys : List Int} (h : Calls Try.prog f args w (RwPost K er xs w)) (e1 : er = 0) (e2 : xs = ys) :
    Calls Try.prog f args w fun e w' => ∃ A c, e = .returned (.tuple #[.slice A ys.length c, .int .i64 0]) ∧ K.Rd w' A ys ∧ Below w.heap.size w w' :=
  h.mono fun e w' ⟨v, h1, h2, h3⟩ => by
    subst e1 e2
    obtain ⟨_, A, c, rfl, _, hr, _⟩ := K.row h2
    exact ⟨A, c, h1, hr, h3⟩
theorem cl_call {n : Nat} {f : FuncId} {args : Array Value} {w : World} {er : Int} {xs ys : List C} (h : Calls Try.prog f args w (RwPost KC er xs w)) (e1 : er = 0) (e2 : xs = ys) (hn : ys.length = n) :
    Calls Try.prog f args w fun e w' => ∃ A c, e = .returned (.tuple #[.slice A n c, .int .i64 0]) ∧ KC.Rd w' A ys ∧ Below w.heap.size w w' :=
  h.mono fun e w' ⟨v, h1, h2, h3⟩ => by
    subst e1 e2 hn
    obtain ⟨_, A, c, rfl, _, hr, _⟩ := KC.row h2
    exact ⟨A, c, h1, hr, h3⟩
theorem ro_call {α : Type} {K : Kd α} {n : Nat} {f : FuncId} {args : Array Value} {w : World} {xs ys : List α} (h : Calls Try.prog f args w (RoPost K xs w)) (e2 : xs = ys) (hn : ys.length = n) :
    Calls Try.prog f args w fun e w' => ∃ A c, e = .returned (.slice A n c) ∧ K.Rd w' A ys ∧ Below w.heap.size w w' :=
  h.mono fun e w' ⟨v, h1, h2, h3⟩ => by
    subst e2 hn
    obtain ⟨_, A, c, rfl, _, hr, _⟩ := K.row h2
    exact ⟨A, c, h1, hr, h3⟩
theorem yes1 (w : World) : Calls Try.prog 29 #[.bool true, .int .i64 0] w fun e w' => e = .returned (.bool true) ∧ w = w' := yes_any true 0 w
theorem no1 (w : World) : Calls Try.prog 45 #[.bool false, .int .i64 0, .int .i64 0] w fun e w' => e = .returned (.bool true) ∧ w = w' := no_any false 0 0 w
theorem ag_call {l : List C} {o : List Int} {b : Bool} {f : FuncId} {args : Array Value} {w : World} (h : Calls Try.prog f args w (AgPost l o w)) (e : agV l o = b ∧ erA l o = 0) :
    Calls Try.prog f args w fun e w' => e = .returned (.tuple #[.bool b, .int .i64 0]) ∧ Below w.heap.size w w' :=
  h.mono fun e' w' ⟨h1, h2⟩ => ⟨by rw [h1, e.1, e.2], h2⟩
theorem at_of {w : World} {g : Nat} {l : List C} {k : Nat} (h : KC.Rd w (some ⟨g, 0, none⟩) l) (hk : k < l.length) : KC.At w g (k * 18) (l.getD k c0) := by
  obtain ⟨b, o, e, hat⟩ := KC.at_ h hk
  injection e with e
  injection e with e1 e2 e3
  subst e1 e2
  rw [Nat.zero_add] at hat
  exact hat
theorem Kd.lit_rd {α : Type} (K : Kd α) (w : World) (l : List α) (cs : Array Value) (hcs : cs.toList = K.flat l) (hm : l.length ≤ 1000) : K.Rd (w.alloc (.cells cs K.E)) (some ⟨w.heap.size, 0, none⟩) l :=
  K.row_get (base := w.heap.size) (n := l.length) (cap := l.length) (by
    have h := World.ownsRow_lit w (e := K.E) (size := K.sz) (base := w.heap.size) cs l.length (Nat.le_refl _) (by unfold maxLen; omega) (by rw [← Array.length_toList, hcs, K.flat_len])
    rw [hcs] at h
    exact h)
section
variable {ops : Array Oper} {S : World → Prop} {o : Oper} {a : Act}
theorem y_move (hw : Region.wanted o (yielded ops a.tmps) = true) (x : Operand) (ho : o.op = .move x) (v : Value) (hv : a.eval x = v) : YieldsIf Try.prog ops S o v a :=
  .inl ⟨hw, fun w _ => by simp only [execOp, ho, hv]; go_simp⟩
theorem y_neqI (hw : Region.wanted o (yielded ops a.tmps) = true) (x y : Operand) (ho : o.op = .binOp .neq 3 x y 3) (m n : Int) (hx : a.eval x = .int .i64 m) (hy : a.eval y = .int .i64 n) (b : Bool) (hb : (m != n) = b) : YieldsIf Try.prog ops S o (.bool b) a :=
  .inl ⟨hw, fun w _ => by simp only [execOp, ho, hx, hy]; go_simp⟩
theorem y_neqE (hw : Region.wanted o (yielded ops a.tmps) = true) (x y : Operand) (ho : o.op = .binOp .neq 24 x y 24) (m n : Int) (hx : a.eval x = .int .i64 m) (hy : a.eval y = .int .i64 n) (b : Bool) (hb : (m != n) = b) : YieldsIf Try.prog ops S o (.bool b) a :=
  .inl ⟨hw, fun w _ => by simp only [execOp, ho, hx, hy]; go_simp⟩
theorem y_not (hw : Region.wanted o (yielded ops a.tmps) = true) (x : Operand) (T : TypeId) (ho : o.op = .unOp .not T x) (b : Bool) (hx : a.eval x = .bool b) : YieldsIf Try.prog ops S o (.bool !b) a :=
  .inl ⟨hw, fun w _ => by simp only [execOp, ho, hx]; go_simp⟩
theorem y_pick (hw : Region.wanted o (yielded ops a.tmps) = true) (x y : Operand) (c : Operand) (ho : o.op = .pick c x y) (hc : a.eval c = .bool false) (v : Value) (hv : a.eval y = v) : YieldsIf Try.prog ops S o v a :=
  .inl ⟨hw, fun w _ => by
    obtain ⟨u, hu⟩ : ∃ u, a.eval y = u := ⟨_, rfl⟩
    rw [hu] at hv
    subst hv
    simp only [execOp, ho, hc, hu]
    go_simp⟩
theorem y_idx (hw : Region.wanted o (yielded ops a.tmps) = true) (x : Operand) (k : Nat) (ho : o.op = .indexAddr 22 x (.const (.int .i64 (k : Nat)))) (g off n c : Nat) (hx : a.eval x = .slice (some ⟨g, off, none⟩) n c) (hk : k < n) (off' : Nat) (he : off + k * 18 = off') : YieldsIf Try.prog ops S o (.pointer (some ⟨g, off', none⟩)) a :=
  .inl ⟨hw, fun w _ => by have := hk; subst he; simp only [execOp, ho, hx]; go_simp⟩
/-- a load of a call yields it in every world that meets S -/
theorem y_ld (hw : Region.wanted o (yielded ops a.tmps) = true) (p : Operand) (ho : o.op = .load 47 p) (b off : Nat) (hp : a.eval p = .pointer (some ⟨b, off, none⟩)) (x : C) (hx : ∀ w, S w → KC.At w b off x) :
    YieldsIf Try.prog ops S o (.agg #[.int .i64 x.t, .int .i64 x.i, .int .u8 x.k, .int .u64 x.p0, .int .u64 x.p1, .int .u64 x.p2, .int .u64 x.p3, .int .u64 x.p4, .int .u64 x.p5, .int .i64 x.v, .int .i64 x.u, .int .i64 x.a, .int .i64 x.s, .int .i64 x.re, .bool x.rf, .int .u64 x.rk, .int .u64 x.rv, .int .i64 x.rc]) a :=
  .inl ⟨hw, fun w hS => by simp only [execOp, ho, hp, Instr.loadAt, Instr.sureAddr, Sem.run_bind, Sem.run_pure, Result.andThen_ok, run_loadVar_mid w b off 47 [.int .i64 x.t, .int .i64 x.i, .int .u8 x.k, .int .u64 x.p0, .int .u64 x.p1, .int .u64 x.p2, .int .u64 x.p3, .int .u64 x.p4, .int .u64 x.p5, .int .i64 x.v, .int .i64 x.u, .int .i64 x.a, .int .i64 x.s, .int .i64 x.re, .bool x.rf, .int .u64 x.rk, .int .u64 x.rv, .int .i64 x.rc] _ (hx w hS) Try.underlying47 rfl sz_call]⟩
end
theorem sx_bel {W W' : World} {g : Nat} (h : KC.At W g 0 xC0 ∧ KC.At W g 18 xC1 ∧ KC.At W g 36 xC2 ∧ KC.At W g 54 xC3) (hb : Below W.heap.size W W') : KC.At W' g 0 xC0 ∧ KC.At W' g 18 xC1 ∧ KC.At W' g 36 xC2 ∧ KC.At W' g 54 xC3 :=
  ⟨h.1.bel hb h.1.lt, h.2.1.bel hb h.2.1.lt, h.2.2.1.bel hb h.2.2.1.lt, h.2.2.2.bel hb h.2.2.2.lt⟩
theorem sx_of {W : World} {g : Nat} (h : KC.Rd W (some ⟨g, 0, none⟩) xH) : KC.At W g 0 xC0 ∧ KC.At W g 18 xC1 ∧ KC.At W g 36 xC2 ∧ KC.At W g 54 xC3 :=
  ⟨by have := at_of h (k := 0) (by decide); exact this, by have := at_of h (k := 1) (by decide); exact this, by have := at_of h (k := 2) (by decide); exact this, by have := at_of h (k := 3) (by decide); exact this⟩
theorem bef {x y : C} {r : Bool} (h : bfr x y = r) (w : World) : Calls Try.prog 30 #[.agg #[.int .i64 x.t, .int .i64 x.i, .int .u8 x.k, .int .u64 x.p0, .int .u64 x.p1, .int .u64 x.p2, .int .u64 x.p3, .int .u64 x.p4, .int .u64 x.p5, .int .i64 x.v, .int .i64 x.u, .int .i64 x.a, .int .i64 x.s, .int .i64 x.re, .bool x.rf, .int .u64 x.rk, .int .u64 x.rv, .int .i64 x.rc], .agg #[.int .i64 y.t, .int .i64 y.i, .int .u8 y.k, .int .u64 y.p0, .int .u64 y.p1, .int .u64 y.p2, .int .u64 y.p3, .int .u64 y.p4, .int .u64 y.p5, .int .i64 y.v, .int .i64 y.u, .int .i64 y.a, .int .i64 y.s, .int .i64 y.re, .bool y.rf, .int .u64 y.rk, .int .u64 y.rv, .int .i64 y.rc]] w fun e w' => e = .returned (.bool r) ∧ Below w.heap.size w w' := by
  have := before_any x y w
  rwa [h] at this
set_option maxRecDepth 100000 in
set_option maxHeartbeats 4000000 in
theorem awake_any (w0 : World) : Calls Try.prog 23 #[] w0 fun e w' => e = .returned (.bool true) ∧ Below w0.heap.size w0 w' := by
  have X0 := Lib.hid xc0
  have XW := Lib.hid xcW
  have XV := Lib.hid xcV
  have BH := Lib.hid bdH
  have BW := Lib.hid bdW
  have BV := Lib.hid bdV
  have BP := Lib.hid bdP
  have B := Lib.hid (Below.refl w0.heap.size w0)
  go_enter Try.func23, Try.ntmps23
  go_wp2_with fail
  refine (ex_call _).mono ?_
  rintro e w1 ⟨g1, rfl, r1, o1, hg1, b1⟩
  have RX := Lib.hid r1
  have OX := Lib.hid o1
  clear r1 o1
  replace B := Lib.hid (bel_bel B.out b1)
  clear b1
  go_wp2_with fail
  refine (check_any _ 4 4 xH _ rfl (by omega) RX.out BH.out).mono ?_
  rintro e w2 ⟨h2, b2⟩
  have RX_3 := Lib.hid (RX.out.below b2)
  clear RX
  have OX_4 := Lib.hid (KC.own_below OX.out b2)
  clear OX
  replace B := Lib.hid (bel_bel B.out b2)
  clear b2
  rw [X0.out] at h2
  subst h2
  go_wp2_with fail
  refine (sl_call (effects_any _ 4 4 xH _ rfl (by omega) RX_3.out BH.out) xe0 xeff).mono ?_
  rintro e w5 ⟨A5, c5, rfl, rd5, b5⟩
  have RE := Lib.hid rd5
  clear rd5
  have RX_6 := Lib.hid (RX_3.out.below b5)
  clear RX_3
  have OX_7 := Lib.hid (KC.own_below OX_4.out b5)
  clear OX_4
  replace B := Lib.hid (bel_bel B.out b5)
  clear b5
  go_wp2_with fail
  have AT0 := Lib.hid (at_of RX_6.out (k := 0) (by decide))
  have AT1 := Lib.hid (at_of RX_6.out (k := 1) (by decide))
  have AT2 := Lib.hid (at_of RX_6.out (k := 2) (by decide))
  have AT3 := Lib.hid (at_of RX_6.out (k := 3) (by decide))
  have RE1 := Lib.hid (RE.out.below (bel_alloc (Below.refl w5.heap.size w5) (.cells #[.int .i64 0, .int .i64 1, .int .i64 2] KI.E)))
  have LT := Lib.hid (KI.lit_rd w5 [0, 1, 2] #[.int .i64 0, .int .i64 1, .int .i64 2] rfl (by simp))
  have hHeld : Below w5.heap.size w5 w5.drew := bel_draw (Below.refl _ _)
  refine wp_region_held_drew (S := fun W => Below w5.heap.size w5 W) (by kernel_rfl) hHeld (fun _ => ?_)
  refine wpAnyH_take (i := 0) (oi := ?o8) (v := .int .i64 0) ?hi8 (by kernel_rfl) (by kernel_rfl) (by kernel_rfl) ?hq8 ?hy8 hHeld ?rest8
  case hi8 => (simp only [List.getElem?_toArray, List.getElem?_cons_zero, List.getElem?_cons_succ]; rfl)
  case hy8 => exact y_move (by rfl) (.tmp 2) rfl (.int .i64 0) rfl
  case hq8 => exact fun _ _ _ h => h
  try simp only [Act.put, List.setIfInBounds_toArray, List.set_cons_zero, List.set_cons_succ]
  refine wpAnyH_take (i := 1) (oi := ?o9) (v := .bool false) ?hi9 (by kernel_rfl) (by kernel_rfl) (by kernel_rfl) ?hq9 ?hy9 hHeld ?rest9
  case hi9 => (simp only [List.getElem?_toArray, List.getElem?_cons_zero, List.getElem?_cons_succ]; rfl)
  case hy9 => exact y_neqI (by rfl) (.tmp 26) _ rfl 0 0 rfl rfl false (by decide)
  case hq9 => exact fun _ _ _ h => h
  try simp only [Act.put, List.setIfInBounds_toArray, List.set_cons_zero, List.set_cons_succ]
  refine wpAnyH_take (i := 2) (oi := ?o10) (v := .bool false) ?hi10 (by kernel_rfl) (by kernel_rfl) (by kernel_rfl) ?hq10 ?hy10 hHeld ?rest10
  case hi10 => (simp only [List.getElem?_toArray, List.getElem?_cons_zero, List.getElem?_cons_succ]; rfl)
  case hy10 => exact y_move (by rfl) (.tmp 27) rfl (.bool false) rfl
  case hq10 => exact fun _ _ _ h => h
  try simp only [Act.put, List.setIfInBounds_toArray, List.set_cons_zero, List.set_cons_succ]
  refine wpAnyH_take (i := 3) (oi := ?o11) (v := .int .i64 0) ?hi11 (by kernel_rfl) (by kernel_rfl) (by kernel_rfl) ?hq11 ?hy11 hHeld ?rest11
  case hi11 => (simp only [List.getElem?_toArray, List.getElem?_cons_zero, List.getElem?_cons_succ]; rfl)
  case hy11 => exact y_move (by rfl) (.tmp 3) rfl (.int .i64 0) rfl
  case hq11 => exact fun _ _ _ h => h
  try simp only [Act.put, List.setIfInBounds_toArray, List.set_cons_zero, List.set_cons_succ]
  refine wpAnyH_take (i := 4) (oi := ?o12) (v := .bool false) ?hi12 (by kernel_rfl) (by kernel_rfl) (by kernel_rfl) ?hq12 ?hy12 hHeld ?rest12
  case hi12 => (simp only [List.getElem?_toArray, List.getElem?_cons_zero, List.getElem?_cons_succ]; rfl)
  case hy12 => exact y_neqE (by rfl) (.tmp 29) _ rfl 0 0 rfl rfl false (by decide)
  case hq12 => exact fun _ _ _ h => h
  try simp only [Act.put, List.setIfInBounds_toArray, List.set_cons_zero, List.set_cons_succ]
  refine wpAnyH_take (i := 5) (oi := ?o13) (v := .bool false) ?hi13 (by kernel_rfl) (by kernel_rfl) (by kernel_rfl) ?hq13 ?hy13 hHeld ?rest13
  case hi13 => (simp only [List.getElem?_toArray, List.getElem?_cons_zero, List.getElem?_cons_succ]; rfl)
  case hy13 => exact y_pick (by rfl) _ (.tmp 30) (.tmp 28) rfl rfl (.bool false) rfl
  case hq13 => exact fun _ _ _ h => h
  try simp only [Act.put, List.setIfInBounds_toArray, List.set_cons_zero, List.set_cons_succ]
  refine wpAnyH_take (i := 6) (oi := ?o14) (v := .bool false) ?hi14 (by kernel_rfl) (by kernel_rfl) (by kernel_rfl) ?hq14 ?hy14 hHeld ?rest14
  case hi14 => (simp only [List.getElem?_toArray, List.getElem?_cons_zero, List.getElem?_cons_succ]; rfl)
  case hy14 => exact y_move (by rfl) (.tmp 31) rfl (.bool false) rfl
  case hq14 => exact fun _ _ _ h => h
  try simp only [Act.put, List.setIfInBounds_toArray, List.set_cons_zero, List.set_cons_succ]
  refine wpAnyH_take (i := 7) (oi := ?o15) (v := .slice A5 3 c5) ?hi15 (by kernel_rfl) (by kernel_rfl) (by kernel_rfl) ?hq15 ?hy15 hHeld ?rest15
  case hi15 => (simp only [List.getElem?_toArray, List.getElem?_cons_zero, List.getElem?_cons_succ]; rfl)
  case hy15 => exact y_move (by rfl) (.tmp 4) rfl (.slice A5 3 c5) rfl
  case hq15 => exact fun _ _ _ h => h
  try simp only [Act.put, List.setIfInBounds_toArray, List.set_cons_zero, List.set_cons_succ]
  refine wpAnyH_ready (rs := [8]) (by kernel_rfl) (by simp) ?_
  refine AllReadyH.cons (o := ?o16) ?hi16 (fun K hK => ?rest16) AllReadyH.nil
  case hi16 => (simp only [List.getElem?_toArray, List.getElem?_cons_zero, List.getElem?_cons_succ]; rfl)
  go_simp
  replace hHeld := (show Below w5.heap.size w5 ((w5.alloc (.cells #[.int .i64 0, .int .i64 1, .int .i64 2] KI.E)).drew) from bel_draw (bel_alloc (Below.refl _ _) _))
  refine hK.out _ _ hHeld (fun _ => ?_)
  clear hK K
  try simp only [Act.put, List.setIfInBounds_toArray, List.set_cons_zero, List.set_cons_succ]
  refine wpAnyH_ready (rs := [9]) (by kernel_rfl) (by simp) ?_
  refine AllReadyH.cons (o := ?o17) ?hi17 (fun K hK => ?rest17) AllReadyH.nil
  case hi17 => (simp only [List.getElem?_toArray, List.getElem?_cons_zero, List.getElem?_cons_succ]; rfl)
  go_simp
  refine (equI_same _ _ 3 _ 3 [0, 1, 2] ((w5.alloc (.cells #[.int .i64 0, .int .i64 1, .int .i64 2] KI.E)).drew) rfl (by omega) RE1.out LT.out).mono ?_
  rintro e wz ⟨rfl, bz⟩
  replace hHeld := hHeld.trans (bz.mono hHeld.size)
  refine hK.out _ _ hHeld (fun _ => ?_)
  clear hK K
  try simp only [Act.put, List.setIfInBounds_toArray, List.set_cons_zero, List.set_cons_succ]
  refine wpAnyH_take (i := 10) (oi := ?o18) (v := .bool false) ?hi18 (by kernel_rfl) (by kernel_rfl) (by kernel_rfl) ?hq18 ?hy18 hHeld ?rest18
  case hi18 => (simp only [List.getElem?_toArray, List.getElem?_cons_zero, List.getElem?_cons_succ]; rfl)
  case hy18 => exact y_not (by rfl) (.tmp 35) _ rfl true rfl
  case hq18 => exact fun _ _ _ h => h
  try simp only [Act.put, List.setIfInBounds_toArray, List.set_cons_zero, List.set_cons_succ]
  refine wpAnyH_take (i := 11) (oi := ?o19) (v := .bool false) ?hi19 (by kernel_rfl) (by kernel_rfl) (by kernel_rfl) ?hq19 ?hy19 hHeld ?rest19
  case hi19 => (simp only [List.getElem?_toArray, List.getElem?_cons_zero, List.getElem?_cons_succ]; rfl)
  case hy19 => exact y_pick (by rfl) _ (.tmp 36) (.tmp 32) rfl rfl (.bool false) rfl
  case hq19 => exact fun _ _ _ h => h
  try simp only [Act.put, List.setIfInBounds_toArray, List.set_cons_zero, List.set_cons_succ]
  refine wpAnyH_take (i := 12) (oi := ?o20) (v := .bool false) ?hi20 (by kernel_rfl) (by kernel_rfl) (by kernel_rfl) ?hq20 ?hy20 hHeld ?rest20
  case hi20 => (simp only [List.getElem?_toArray, List.getElem?_cons_zero, List.getElem?_cons_succ]; rfl)
  case hy20 => exact y_move (by rfl) (.tmp 37) rfl (.bool false) rfl
  case hq20 => exact fun _ _ _ h => h
  try simp only [Act.put, List.setIfInBounds_toArray, List.set_cons_zero, List.set_cons_succ]
  refine wpAnyH_take (i := 13) (oi := ?o21) (v := .int .i64 0) ?hi21 (by kernel_rfl) (by kernel_rfl) (by kernel_rfl) ?hq21 ?hy21 hHeld ?rest21
  case hi21 => (simp only [List.getElem?_toArray, List.getElem?_cons_zero, List.getElem?_cons_succ]; rfl)
  case hy21 => exact y_move (by rfl) (.tmp 5) rfl (.int .i64 0) rfl
  case hq21 => exact fun _ _ _ h => h
  try simp only [Act.put, List.setIfInBounds_toArray, List.set_cons_zero, List.set_cons_succ]
  refine wpAnyH_take (i := 14) (oi := ?o22) (v := .bool false) ?hi22 (by kernel_rfl) (by kernel_rfl) (by kernel_rfl) ?hq22 ?hy22 hHeld ?rest22
  case hi22 => (simp only [List.getElem?_toArray, List.getElem?_cons_zero, List.getElem?_cons_succ]; rfl)
  case hy22 => exact y_neqE (by rfl) (.tmp 39) _ rfl 0 0 rfl rfl false (by decide)
  case hq22 => exact fun _ _ _ h => h
  try simp only [Act.put, List.setIfInBounds_toArray, List.set_cons_zero, List.set_cons_succ]
  refine wpAnyH_take (i := 15) (oi := ?o23) (v := .bool false) ?hi23 (by kernel_rfl) (by kernel_rfl) (by kernel_rfl) ?hq23 ?hy23 hHeld ?rest23
  case hi23 => (simp only [List.getElem?_toArray, List.getElem?_cons_zero, List.getElem?_cons_succ]; rfl)
  case hy23 => exact y_pick (by rfl) _ (.tmp 40) (.tmp 38) rfl rfl (.bool false) rfl
  case hq23 => exact fun _ _ _ h => h
  try simp only [Act.put, List.setIfInBounds_toArray, List.set_cons_zero, List.set_cons_succ]
  refine wpAnyH_take (i := 16) (oi := ?o24) (v := .bool false) ?hi24 (by kernel_rfl) (by kernel_rfl) (by kernel_rfl) ?hq24 ?hy24 hHeld ?rest24
  case hi24 => (simp only [List.getElem?_toArray, List.getElem?_cons_zero, List.getElem?_cons_succ]; rfl)
  case hy24 => exact y_move (by rfl) (.tmp 41) rfl (.bool false) rfl
  case hq24 => exact fun _ _ _ h => h
  try simp only [Act.put, List.setIfInBounds_toArray, List.set_cons_zero, List.set_cons_succ]
  refine wpAnyH_take (i := 17) (oi := ?o25) (v := .slice (some ⟨g1, 0, none⟩) 4 4) ?hi25 (by kernel_rfl) (by kernel_rfl) (by kernel_rfl) ?hq25 ?hy25 hHeld ?rest25
  case hi25 => (simp only [List.getElem?_toArray, List.getElem?_cons_zero, List.getElem?_cons_succ]; rfl)
  case hy25 => exact y_move (by rfl) (.tmp 1) rfl (.slice (some ⟨g1, 0, none⟩) 4 4) rfl
  case hq25 => exact fun _ _ _ h => h
  try simp only [Act.put, List.setIfInBounds_toArray, List.set_cons_zero, List.set_cons_succ]
  refine wpAnyH_take (i := 18) (oi := ?o26) (v := .pointer (some ⟨g1, 0, none⟩)) ?hi26 (by kernel_rfl) (by kernel_rfl) (by kernel_rfl) ?hq26 ?hy26 hHeld ?rest26
  case hi26 => (simp only [List.getElem?_toArray, List.getElem?_cons_zero, List.getElem?_cons_succ]; rfl)
  case hy26 => exact y_idx (by rfl) (.tmp 43) 0 rfl g1 0 4 4 rfl (by decide) 0 (by decide)
  case hq26 => exact fun _ _ _ h => h
  try simp only [Act.put, List.setIfInBounds_toArray, List.set_cons_zero, List.set_cons_succ]
  refine wpAnyH_take (i := 19) (oi := ?o27) (v := .agg #[.int .i64 xC0.t, .int .i64 xC0.i, .int .u8 xC0.k, .int .u64 xC0.p0, .int .u64 xC0.p1, .int .u64 xC0.p2, .int .u64 xC0.p3, .int .u64 xC0.p4, .int .u64 xC0.p5, .int .i64 xC0.v, .int .i64 xC0.u, .int .i64 xC0.a, .int .i64 xC0.s, .int .i64 xC0.re, .bool xC0.rf, .int .u64 xC0.rk, .int .u64 xC0.rv, .int .i64 xC0.rc]) ?hi27 (by kernel_rfl) (by kernel_rfl) (by kernel_rfl) ?hq27 ?hy27 hHeld ?rest27
  case hi27 => (simp only [List.getElem?_toArray, List.getElem?_cons_zero, List.getElem?_cons_succ]; rfl)
  case hy27 => exact y_ld (by rfl) (.tmp 44) rfl g1 0 rfl xC0 (fun W h => (AT0.out.bel h AT0.out.lt))
  case hq27 => exact fun _ _ _ h => h
  try simp only [Act.put, List.setIfInBounds_toArray, List.set_cons_zero, List.set_cons_succ]
  refine wpAnyH_take (i := 20) (oi := ?o28) (v := .slice (some ⟨g1, 0, none⟩) 4 4) ?hi28 (by kernel_rfl) (by kernel_rfl) (by kernel_rfl) ?hq28 ?hy28 hHeld ?rest28
  case hi28 => (simp only [List.getElem?_toArray, List.getElem?_cons_zero, List.getElem?_cons_succ]; rfl)
  case hy28 => exact y_move (by rfl) (.tmp 1) rfl (.slice (some ⟨g1, 0, none⟩) 4 4) rfl
  case hq28 => exact fun _ _ _ h => h
  try simp only [Act.put, List.setIfInBounds_toArray, List.set_cons_zero, List.set_cons_succ]
  refine wpAnyH_take (i := 21) (oi := ?o29) (v := .pointer (some ⟨g1, 36, none⟩)) ?hi29 (by kernel_rfl) (by kernel_rfl) (by kernel_rfl) ?hq29 ?hy29 hHeld ?rest29
  case hi29 => (simp only [List.getElem?_toArray, List.getElem?_cons_zero, List.getElem?_cons_succ]; rfl)
  case hy29 => exact y_idx (by rfl) (.tmp 46) 2 rfl g1 0 4 4 rfl (by decide) 36 (by decide)
  case hq29 => exact fun _ _ _ h => h
  try simp only [Act.put, List.setIfInBounds_toArray, List.set_cons_zero, List.set_cons_succ]
  refine wpAnyH_take (i := 22) (oi := ?o30) (v := .agg #[.int .i64 xC2.t, .int .i64 xC2.i, .int .u8 xC2.k, .int .u64 xC2.p0, .int .u64 xC2.p1, .int .u64 xC2.p2, .int .u64 xC2.p3, .int .u64 xC2.p4, .int .u64 xC2.p5, .int .i64 xC2.v, .int .i64 xC2.u, .int .i64 xC2.a, .int .i64 xC2.s, .int .i64 xC2.re, .bool xC2.rf, .int .u64 xC2.rk, .int .u64 xC2.rv, .int .i64 xC2.rc]) ?hi30 (by kernel_rfl) (by kernel_rfl) (by kernel_rfl) ?hq30 ?hy30 hHeld ?rest30
  case hi30 => (simp only [List.getElem?_toArray, List.getElem?_cons_zero, List.getElem?_cons_succ]; rfl)
  case hy30 => exact y_ld (by rfl) (.tmp 47) rfl g1 36 rfl xC2 (fun W h => (AT2.out.bel h AT2.out.lt))
  case hq30 => exact fun _ _ _ h => h
  try simp only [Act.put, List.setIfInBounds_toArray, List.set_cons_zero, List.set_cons_succ]
  refine wpAnyH_ready (rs := [23]) (by kernel_rfl) (by simp) ?_
  refine AllReadyH.cons (o := ?o31) ?hi31 (fun K hK => ?rest31) AllReadyH.nil
  case hi31 => (simp only [List.getElem?_toArray, List.getElem?_cons_zero, List.getElem?_cons_succ]; rfl)
  go_simp
  refine (bef xb02 _).mono ?_
  rintro e wz ⟨rfl, bz⟩
  replace hHeld := hHeld.trans (bz.mono hHeld.size)
  refine hK.out _ _ hHeld (fun _ => ?_)
  clear hK K
  try simp only [Act.put, List.setIfInBounds_toArray, List.set_cons_zero, List.set_cons_succ]
  refine wpAnyH_take (i := 24) (oi := ?o32) (v := .bool false) ?hi32 (by kernel_rfl) (by kernel_rfl) (by kernel_rfl) ?hq32 ?hy32 hHeld ?rest32
  case hi32 => (simp only [List.getElem?_toArray, List.getElem?_cons_zero, List.getElem?_cons_succ]; rfl)
  case hy32 => exact y_not (by rfl) (.tmp 49) _ rfl true rfl
  case hq32 => exact fun _ _ _ h => h
  try simp only [Act.put, List.setIfInBounds_toArray, List.set_cons_zero, List.set_cons_succ]
  refine wpAnyH_take (i := 25) (oi := ?o33) (v := .bool false) ?hi33 (by kernel_rfl) (by kernel_rfl) (by kernel_rfl) ?hq33 ?hy33 hHeld ?rest33
  case hi33 => (simp only [List.getElem?_toArray, List.getElem?_cons_zero, List.getElem?_cons_succ]; rfl)
  case hy33 => exact y_pick (by rfl) _ (.tmp 50) (.tmp 42) rfl rfl (.bool false) rfl
  case hq33 => exact fun _ _ _ h => h
  try simp only [Act.put, List.setIfInBounds_toArray, List.set_cons_zero, List.set_cons_succ]
  refine wpAnyH_take (i := 26) (oi := ?o34) (v := .bool false) ?hi34 (by kernel_rfl) (by kernel_rfl) (by kernel_rfl) ?hq34 ?hy34 hHeld ?rest34
  case hi34 => (simp only [List.getElem?_toArray, List.getElem?_cons_zero, List.getElem?_cons_succ]; rfl)
  case hy34 => exact y_move (by rfl) (.tmp 51) rfl (.bool false) rfl
  case hq34 => exact fun _ _ _ h => h
  try simp only [Act.put, List.setIfInBounds_toArray, List.set_cons_zero, List.set_cons_succ]
  refine wpAnyH_take (i := 27) (oi := ?o35) (v := .slice (some ⟨g1, 0, none⟩) 4 4) ?hi35 (by kernel_rfl) (by kernel_rfl) (by kernel_rfl) ?hq35 ?hy35 hHeld ?rest35
  case hi35 => (simp only [List.getElem?_toArray, List.getElem?_cons_zero, List.getElem?_cons_succ]; rfl)
  case hy35 => exact y_move (by rfl) (.tmp 1) rfl (.slice (some ⟨g1, 0, none⟩) 4 4) rfl
  case hq35 => exact fun _ _ _ h => h
  try simp only [Act.put, List.setIfInBounds_toArray, List.set_cons_zero, List.set_cons_succ]
  refine wpAnyH_take (i := 28) (oi := ?o36) (v := .pointer (some ⟨g1, 18, none⟩)) ?hi36 (by kernel_rfl) (by kernel_rfl) (by kernel_rfl) ?hq36 ?hy36 hHeld ?rest36
  case hi36 => (simp only [List.getElem?_toArray, List.getElem?_cons_zero, List.getElem?_cons_succ]; rfl)
  case hy36 => exact y_idx (by rfl) (.tmp 53) 1 rfl g1 0 4 4 rfl (by decide) 18 (by decide)
  case hq36 => exact fun _ _ _ h => h
  try simp only [Act.put, List.setIfInBounds_toArray, List.set_cons_zero, List.set_cons_succ]
  refine wpAnyH_take (i := 29) (oi := ?o37) (v := .agg #[.int .i64 xC1.t, .int .i64 xC1.i, .int .u8 xC1.k, .int .u64 xC1.p0, .int .u64 xC1.p1, .int .u64 xC1.p2, .int .u64 xC1.p3, .int .u64 xC1.p4, .int .u64 xC1.p5, .int .i64 xC1.v, .int .i64 xC1.u, .int .i64 xC1.a, .int .i64 xC1.s, .int .i64 xC1.re, .bool xC1.rf, .int .u64 xC1.rk, .int .u64 xC1.rv, .int .i64 xC1.rc]) ?hi37 (by kernel_rfl) (by kernel_rfl) (by kernel_rfl) ?hq37 ?hy37 hHeld ?rest37
  case hi37 => (simp only [List.getElem?_toArray, List.getElem?_cons_zero, List.getElem?_cons_succ]; rfl)
  case hy37 => exact y_ld (by rfl) (.tmp 54) rfl g1 18 rfl xC1 (fun W h => (AT1.out.bel h AT1.out.lt))
  case hq37 => exact fun _ _ _ h => h
  try simp only [Act.put, List.setIfInBounds_toArray, List.set_cons_zero, List.set_cons_succ]
  refine wpAnyH_take (i := 30) (oi := ?o38) (v := .slice (some ⟨g1, 0, none⟩) 4 4) ?hi38 (by kernel_rfl) (by kernel_rfl) (by kernel_rfl) ?hq38 ?hy38 hHeld ?rest38
  case hi38 => (simp only [List.getElem?_toArray, List.getElem?_cons_zero, List.getElem?_cons_succ]; rfl)
  case hy38 => exact y_move (by rfl) (.tmp 1) rfl (.slice (some ⟨g1, 0, none⟩) 4 4) rfl
  case hq38 => exact fun _ _ _ h => h
  try simp only [Act.put, List.setIfInBounds_toArray, List.set_cons_zero, List.set_cons_succ]
  refine wpAnyH_take (i := 31) (oi := ?o39) (v := .pointer (some ⟨g1, 54, none⟩)) ?hi39 (by kernel_rfl) (by kernel_rfl) (by kernel_rfl) ?hq39 ?hy39 hHeld ?rest39
  case hi39 => (simp only [List.getElem?_toArray, List.getElem?_cons_zero, List.getElem?_cons_succ]; rfl)
  case hy39 => exact y_idx (by rfl) (.tmp 56) 3 rfl g1 0 4 4 rfl (by decide) 54 (by decide)
  case hq39 => exact fun _ _ _ h => h
  try simp only [Act.put, List.setIfInBounds_toArray, List.set_cons_zero, List.set_cons_succ]
  refine wpAnyH_take (i := 32) (oi := ?o40) (v := .agg #[.int .i64 xC3.t, .int .i64 xC3.i, .int .u8 xC3.k, .int .u64 xC3.p0, .int .u64 xC3.p1, .int .u64 xC3.p2, .int .u64 xC3.p3, .int .u64 xC3.p4, .int .u64 xC3.p5, .int .i64 xC3.v, .int .i64 xC3.u, .int .i64 xC3.a, .int .i64 xC3.s, .int .i64 xC3.re, .bool xC3.rf, .int .u64 xC3.rk, .int .u64 xC3.rv, .int .i64 xC3.rc]) ?hi40 (by kernel_rfl) (by kernel_rfl) (by kernel_rfl) ?hq40 ?hy40 hHeld ?rest40
  case hi40 => (simp only [List.getElem?_toArray, List.getElem?_cons_zero, List.getElem?_cons_succ]; rfl)
  case hy40 => exact y_ld (by rfl) (.tmp 57) rfl g1 54 rfl xC3 (fun W h => (AT3.out.bel h AT3.out.lt))
  case hq40 => exact fun _ _ _ h => h
  try simp only [Act.put, List.setIfInBounds_toArray, List.set_cons_zero, List.set_cons_succ]
  refine wpAnyH_ready (rs := [33]) (by kernel_rfl) (by simp) ?_
  refine AllReadyH.cons (o := ?o41) ?hi41 (fun K hK => ?rest41) AllReadyH.nil
  case hi41 => (simp only [List.getElem?_toArray, List.getElem?_cons_zero, List.getElem?_cons_succ]; rfl)
  go_simp
  refine (bef xb13 _).mono ?_
  rintro e wz ⟨rfl, bz⟩
  replace hHeld := hHeld.trans (bz.mono hHeld.size)
  refine hK.out _ _ hHeld (fun _ => ?_)
  clear hK K
  try simp only [Act.put, List.setIfInBounds_toArray, List.set_cons_zero, List.set_cons_succ]
  refine wpAnyH_take (i := 34) (oi := ?o42) (v := .bool false) ?hi42 (by kernel_rfl) (by kernel_rfl) (by kernel_rfl) ?hq42 ?hy42 hHeld ?rest42
  case hi42 => (simp only [List.getElem?_toArray, List.getElem?_cons_zero, List.getElem?_cons_succ]; rfl)
  case hy42 => exact y_not (by rfl) (.tmp 59) _ rfl true rfl
  case hq42 => exact fun _ _ _ h => h
  try simp only [Act.put, List.setIfInBounds_toArray, List.set_cons_zero, List.set_cons_succ]
  refine wpAnyH_take (i := 35) (oi := ?o43) (v := .bool false) ?hi43 (by kernel_rfl) (by kernel_rfl) (by kernel_rfl) ?hq43 ?hy43 hHeld ?rest43
  case hi43 => (simp only [List.getElem?_toArray, List.getElem?_cons_zero, List.getElem?_cons_succ]; rfl)
  case hy43 => exact y_pick (by rfl) _ (.tmp 60) (.tmp 52) rfl rfl (.bool false) rfl
  case hq43 => exact fun _ _ _ h => h
  try simp only [Act.put, List.setIfInBounds_toArray, List.set_cons_zero, List.set_cons_succ]
  refine wpAnyH_take (i := 36) (oi := ?o44) (v := .bool false) ?hi44 (by kernel_rfl) (by kernel_rfl) (by kernel_rfl) ?hq44 ?hy44 hHeld ?rest44
  case hi44 => (simp only [List.getElem?_toArray, List.getElem?_cons_zero, List.getElem?_cons_succ]; rfl)
  case hy44 => exact y_move (by rfl) (.tmp 61) rfl (.bool false) rfl
  case hq44 => exact fun _ _ _ h => h
  try simp only [Act.put, List.setIfInBounds_toArray, List.set_cons_zero, List.set_cons_succ]
  refine wpAnyH_take (i := 37) (oi := ?o45) (v := .slice (some ⟨g1, 0, none⟩) 4 4) ?hi45 (by kernel_rfl) (by kernel_rfl) (by kernel_rfl) ?hq45 ?hy45 hHeld ?rest45
  case hi45 => (simp only [List.getElem?_toArray, List.getElem?_cons_zero, List.getElem?_cons_succ]; rfl)
  case hy45 => exact y_move (by rfl) (.tmp 1) rfl (.slice (some ⟨g1, 0, none⟩) 4 4) rfl
  case hq45 => exact fun _ _ _ h => h
  try simp only [Act.put, List.setIfInBounds_toArray, List.set_cons_zero, List.set_cons_succ]
  refine wpAnyH_take (i := 38) (oi := ?o46) (v := .pointer (some ⟨g1, 0, none⟩)) ?hi46 (by kernel_rfl) (by kernel_rfl) (by kernel_rfl) ?hq46 ?hy46 hHeld ?rest46
  case hi46 => (simp only [List.getElem?_toArray, List.getElem?_cons_zero, List.getElem?_cons_succ]; rfl)
  case hy46 => exact y_idx (by rfl) (.tmp 63) 0 rfl g1 0 4 4 rfl (by decide) 0 (by decide)
  case hq46 => exact fun _ _ _ h => h
  try simp only [Act.put, List.setIfInBounds_toArray, List.set_cons_zero, List.set_cons_succ]
  refine wpAnyH_take (i := 39) (oi := ?o47) (v := .agg #[.int .i64 xC0.t, .int .i64 xC0.i, .int .u8 xC0.k, .int .u64 xC0.p0, .int .u64 xC0.p1, .int .u64 xC0.p2, .int .u64 xC0.p3, .int .u64 xC0.p4, .int .u64 xC0.p5, .int .i64 xC0.v, .int .i64 xC0.u, .int .i64 xC0.a, .int .i64 xC0.s, .int .i64 xC0.re, .bool xC0.rf, .int .u64 xC0.rk, .int .u64 xC0.rv, .int .i64 xC0.rc]) ?hi47 (by kernel_rfl) (by kernel_rfl) (by kernel_rfl) ?hq47 ?hy47 hHeld ?rest47
  case hi47 => (simp only [List.getElem?_toArray, List.getElem?_cons_zero, List.getElem?_cons_succ]; rfl)
  case hy47 => exact y_ld (by rfl) (.tmp 64) rfl g1 0 rfl xC0 (fun W h => (AT0.out.bel h AT0.out.lt))
  case hq47 => exact fun _ _ _ h => h
  try simp only [Act.put, List.setIfInBounds_toArray, List.set_cons_zero, List.set_cons_succ]
  refine wpAnyH_take (i := 40) (oi := ?o48) (v := .slice (some ⟨g1, 0, none⟩) 4 4) ?hi48 (by kernel_rfl) (by kernel_rfl) (by kernel_rfl) ?hq48 ?hy48 hHeld ?rest48
  case hi48 => (simp only [List.getElem?_toArray, List.getElem?_cons_zero, List.getElem?_cons_succ]; rfl)
  case hy48 => exact y_move (by rfl) (.tmp 1) rfl (.slice (some ⟨g1, 0, none⟩) 4 4) rfl
  case hq48 => exact fun _ _ _ h => h
  try simp only [Act.put, List.setIfInBounds_toArray, List.set_cons_zero, List.set_cons_succ]
  refine wpAnyH_take (i := 41) (oi := ?o49) (v := .pointer (some ⟨g1, 18, none⟩)) ?hi49 (by kernel_rfl) (by kernel_rfl) (by kernel_rfl) ?hq49 ?hy49 hHeld ?rest49
  case hi49 => (simp only [List.getElem?_toArray, List.getElem?_cons_zero, List.getElem?_cons_succ]; rfl)
  case hy49 => exact y_idx (by rfl) (.tmp 66) 1 rfl g1 0 4 4 rfl (by decide) 18 (by decide)
  case hq49 => exact fun _ _ _ h => h
  try simp only [Act.put, List.setIfInBounds_toArray, List.set_cons_zero, List.set_cons_succ]
  refine wpAnyH_take (i := 42) (oi := ?o50) (v := .agg #[.int .i64 xC1.t, .int .i64 xC1.i, .int .u8 xC1.k, .int .u64 xC1.p0, .int .u64 xC1.p1, .int .u64 xC1.p2, .int .u64 xC1.p3, .int .u64 xC1.p4, .int .u64 xC1.p5, .int .i64 xC1.v, .int .i64 xC1.u, .int .i64 xC1.a, .int .i64 xC1.s, .int .i64 xC1.re, .bool xC1.rf, .int .u64 xC1.rk, .int .u64 xC1.rv, .int .i64 xC1.rc]) ?hi50 (by kernel_rfl) (by kernel_rfl) (by kernel_rfl) ?hq50 ?hy50 hHeld ?rest50
  case hi50 => (simp only [List.getElem?_toArray, List.getElem?_cons_zero, List.getElem?_cons_succ]; rfl)
  case hy50 => exact y_ld (by rfl) (.tmp 67) rfl g1 18 rfl xC1 (fun W h => (AT1.out.bel h AT1.out.lt))
  case hq50 => exact fun _ _ _ h => h
  try simp only [Act.put, List.setIfInBounds_toArray, List.set_cons_zero, List.set_cons_succ]
  refine wpAnyH_ready (rs := [43]) (by kernel_rfl) (by simp) ?_
  refine AllReadyH.cons (o := ?o51) ?hi51 (fun K hK => ?rest51) AllReadyH.nil
  case hi51 => (simp only [List.getElem?_toArray, List.getElem?_cons_zero, List.getElem?_cons_succ]; rfl)
  go_simp
  refine (bef xb01 _).mono ?_
  rintro e wz ⟨rfl, bz⟩
  replace hHeld := hHeld.trans (bz.mono hHeld.size)
  refine hK.out _ _ hHeld (fun _ => ?_)
  clear hK K
  try simp only [Act.put, List.setIfInBounds_toArray, List.set_cons_zero, List.set_cons_succ]
  refine wpAnyH_take (i := 44) (oi := ?o52) (v := .bool false) ?hi52 (by kernel_rfl) (by kernel_rfl) (by kernel_rfl) ?hq52 ?hy52 hHeld ?rest52
  case hi52 => (simp only [List.getElem?_toArray, List.getElem?_cons_zero, List.getElem?_cons_succ]; rfl)
  case hy52 => exact y_pick (by rfl) _ (.tmp 69) (.tmp 62) rfl rfl (.bool false) rfl
  case hq52 => exact fun _ _ _ h => h
  try simp only [Act.put, List.setIfInBounds_toArray, List.set_cons_zero, List.set_cons_succ]
  refine wpAnyH_take (i := 45) (oi := ?o53) (v := .bool false) ?hi53 (by kernel_rfl) (by kernel_rfl) (by kernel_rfl) ?hq53 ?hy53 hHeld ?rest53
  case hi53 => (simp only [List.getElem?_toArray, List.getElem?_cons_zero, List.getElem?_cons_succ]; rfl)
  case hy53 => exact y_move (by rfl) (.tmp 70) rfl (.bool false) rfl
  case hq53 => exact fun _ _ _ h => h
  try simp only [Act.put, List.setIfInBounds_toArray, List.set_cons_zero, List.set_cons_succ]
  refine wpAnyH_take (i := 46) (oi := ?o54) (v := .slice (some ⟨g1, 0, none⟩) 4 4) ?hi54 (by kernel_rfl) (by kernel_rfl) (by kernel_rfl) ?hq54 ?hy54 hHeld ?rest54
  case hi54 => (simp only [List.getElem?_toArray, List.getElem?_cons_zero, List.getElem?_cons_succ]; rfl)
  case hy54 => exact y_move (by rfl) (.tmp 1) rfl (.slice (some ⟨g1, 0, none⟩) 4 4) rfl
  case hq54 => exact fun _ _ _ h => h
  try simp only [Act.put, List.setIfInBounds_toArray, List.set_cons_zero, List.set_cons_succ]
  refine wpAnyH_take (i := 47) (oi := ?o55) (v := .pointer (some ⟨g1, 36, none⟩)) ?hi55 (by kernel_rfl) (by kernel_rfl) (by kernel_rfl) ?hq55 ?hy55 hHeld ?rest55
  case hi55 => (simp only [List.getElem?_toArray, List.getElem?_cons_zero, List.getElem?_cons_succ]; rfl)
  case hy55 => exact y_idx (by rfl) (.tmp 72) 2 rfl g1 0 4 4 rfl (by decide) 36 (by decide)
  case hq55 => exact fun _ _ _ h => h
  try simp only [Act.put, List.setIfInBounds_toArray, List.set_cons_zero, List.set_cons_succ]
  refine wpAnyH_take (i := 48) (oi := ?o56) (v := .agg #[.int .i64 xC2.t, .int .i64 xC2.i, .int .u8 xC2.k, .int .u64 xC2.p0, .int .u64 xC2.p1, .int .u64 xC2.p2, .int .u64 xC2.p3, .int .u64 xC2.p4, .int .u64 xC2.p5, .int .i64 xC2.v, .int .i64 xC2.u, .int .i64 xC2.a, .int .i64 xC2.s, .int .i64 xC2.re, .bool xC2.rf, .int .u64 xC2.rk, .int .u64 xC2.rv, .int .i64 xC2.rc]) ?hi56 (by kernel_rfl) (by kernel_rfl) (by kernel_rfl) ?hq56 ?hy56 hHeld ?rest56
  case hi56 => (simp only [List.getElem?_toArray, List.getElem?_cons_zero, List.getElem?_cons_succ]; rfl)
  case hy56 => exact y_ld (by rfl) (.tmp 73) rfl g1 36 rfl xC2 (fun W h => (AT2.out.bel h AT2.out.lt))
  case hq56 => exact fun _ _ _ h => h
  try simp only [Act.put, List.setIfInBounds_toArray, List.set_cons_zero, List.set_cons_succ]
  refine wpAnyH_take (i := 49) (oi := ?o57) (v := .slice (some ⟨g1, 0, none⟩) 4 4) ?hi57 (by kernel_rfl) (by kernel_rfl) (by kernel_rfl) ?hq57 ?hy57 hHeld ?rest57
  case hi57 => (simp only [List.getElem?_toArray, List.getElem?_cons_zero, List.getElem?_cons_succ]; rfl)
  case hy57 => exact y_move (by rfl) (.tmp 1) rfl (.slice (some ⟨g1, 0, none⟩) 4 4) rfl
  case hq57 => exact fun _ _ _ h => h
  try simp only [Act.put, List.setIfInBounds_toArray, List.set_cons_zero, List.set_cons_succ]
  refine wpAnyH_take (i := 50) (oi := ?o58) (v := .pointer (some ⟨g1, 54, none⟩)) ?hi58 (by kernel_rfl) (by kernel_rfl) (by kernel_rfl) ?hq58 ?hy58 hHeld ?rest58
  case hi58 => (simp only [List.getElem?_toArray, List.getElem?_cons_zero, List.getElem?_cons_succ]; rfl)
  case hy58 => exact y_idx (by rfl) (.tmp 75) 3 rfl g1 0 4 4 rfl (by decide) 54 (by decide)
  case hq58 => exact fun _ _ _ h => h
  try simp only [Act.put, List.setIfInBounds_toArray, List.set_cons_zero, List.set_cons_succ]
  refine wpAnyH_take (i := 51) (oi := ?o59) (v := .agg #[.int .i64 xC3.t, .int .i64 xC3.i, .int .u8 xC3.k, .int .u64 xC3.p0, .int .u64 xC3.p1, .int .u64 xC3.p2, .int .u64 xC3.p3, .int .u64 xC3.p4, .int .u64 xC3.p5, .int .i64 xC3.v, .int .i64 xC3.u, .int .i64 xC3.a, .int .i64 xC3.s, .int .i64 xC3.re, .bool xC3.rf, .int .u64 xC3.rk, .int .u64 xC3.rv, .int .i64 xC3.rc]) ?hi59 (by kernel_rfl) (by kernel_rfl) (by kernel_rfl) ?hq59 ?hy59 hHeld ?rest59
  case hi59 => (simp only [List.getElem?_toArray, List.getElem?_cons_zero, List.getElem?_cons_succ]; rfl)
  case hy59 => exact y_ld (by rfl) (.tmp 76) rfl g1 54 rfl xC3 (fun W h => (AT3.out.bel h AT3.out.lt))
  case hq59 => exact fun _ _ _ h => h
  try simp only [Act.put, List.setIfInBounds_toArray, List.set_cons_zero, List.set_cons_succ]
  refine wpAnyH_ready (rs := [52]) (by kernel_rfl) (by simp) ?_
  refine AllReadyH.cons (o := ?o60) ?hi60 (fun K hK => ?rest60) AllReadyH.nil
  case hi60 => (simp only [List.getElem?_toArray, List.getElem?_cons_zero, List.getElem?_cons_succ]; rfl)
  go_simp
  refine (bef xb23 _).mono ?_
  rintro e wz ⟨rfl, bz⟩
  replace hHeld := hHeld.trans (bz.mono hHeld.size)
  refine hK.out _ _ hHeld (fun _ => ?_)
  clear hK K
  try simp only [Act.put, List.setIfInBounds_toArray, List.set_cons_zero, List.set_cons_succ]
  refine wpAnyH_take (i := 53) (oi := ?o61) (v := .bool false) ?hi61 (by kernel_rfl) (by kernel_rfl) (by kernel_rfl) ?hq61 ?hy61 hHeld ?rest61
  case hi61 => (simp only [List.getElem?_toArray, List.getElem?_cons_zero, List.getElem?_cons_succ]; rfl)
  case hy61 => exact y_pick (by rfl) _ (.tmp 78) (.tmp 71) rfl rfl (.bool false) rfl
  case hq61 => exact fun _ _ _ h => h
  try simp only [Act.put, List.setIfInBounds_toArray, List.set_cons_zero, List.set_cons_succ]
  refine wpAnyH_take (i := 54) (oi := ?o62) (v := .bool false) ?hi62 (by kernel_rfl) (by kernel_rfl) (by kernel_rfl) ?hq62 ?hy62 hHeld ?rest62
  case hi62 => (simp only [List.getElem?_toArray, List.getElem?_cons_zero, List.getElem?_cons_succ]; rfl)
  case hy62 => exact y_move (by rfl) (.tmp 79) rfl (.bool false) rfl
  case hq62 => exact fun _ _ _ h => h
  try simp only [Act.put, List.setIfInBounds_toArray, List.set_cons_zero, List.set_cons_succ]
  refine wpAnyH_take (i := 55) (oi := ?o63) (v := .slice (some ⟨g1, 0, none⟩) 4 4) ?hi63 (by kernel_rfl) (by kernel_rfl) (by kernel_rfl) ?hq63 ?hy63 hHeld ?rest63
  case hi63 => (simp only [List.getElem?_toArray, List.getElem?_cons_zero, List.getElem?_cons_succ]; rfl)
  case hy63 => exact y_move (by rfl) (.tmp 1) rfl (.slice (some ⟨g1, 0, none⟩) 4 4) rfl
  case hq63 => exact fun _ _ _ h => h
  try simp only [Act.put, List.setIfInBounds_toArray, List.set_cons_zero, List.set_cons_succ]
  refine wpAnyH_take (i := 56) (oi := ?o64) (v := .pointer (some ⟨g1, 54, none⟩)) ?hi64 (by kernel_rfl) (by kernel_rfl) (by kernel_rfl) ?hq64 ?hy64 hHeld ?rest64
  case hi64 => (simp only [List.getElem?_toArray, List.getElem?_cons_zero, List.getElem?_cons_succ]; rfl)
  case hy64 => exact y_idx (by rfl) (.tmp 81) 3 rfl g1 0 4 4 rfl (by decide) 54 (by decide)
  case hq64 => exact fun _ _ _ h => h
  try simp only [Act.put, List.setIfInBounds_toArray, List.set_cons_zero, List.set_cons_succ]
  refine wpAnyH_take (i := 57) (oi := ?o65) (v := .agg #[.int .i64 xC3.t, .int .i64 xC3.i, .int .u8 xC3.k, .int .u64 xC3.p0, .int .u64 xC3.p1, .int .u64 xC3.p2, .int .u64 xC3.p3, .int .u64 xC3.p4, .int .u64 xC3.p5, .int .i64 xC3.v, .int .i64 xC3.u, .int .i64 xC3.a, .int .i64 xC3.s, .int .i64 xC3.re, .bool xC3.rf, .int .u64 xC3.rk, .int .u64 xC3.rv, .int .i64 xC3.rc]) ?hi65 (by kernel_rfl) (by kernel_rfl) (by kernel_rfl) ?hq65 ?hy65 hHeld ?rest65
  case hi65 => (simp only [List.getElem?_toArray, List.getElem?_cons_zero, List.getElem?_cons_succ]; rfl)
  case hy65 => exact y_ld (by rfl) (.tmp 82) rfl g1 54 rfl xC3 (fun W h => (AT3.out.bel h AT3.out.lt))
  case hq65 => exact fun _ _ _ h => h
  try simp only [Act.put, List.setIfInBounds_toArray, List.set_cons_zero, List.set_cons_succ]
  refine wpAnyH_take (i := 58) (oi := ?o66) (v := .slice (some ⟨g1, 0, none⟩) 4 4) ?hi66 (by kernel_rfl) (by kernel_rfl) (by kernel_rfl) ?hq66 ?hy66 hHeld ?rest66
  case hi66 => (simp only [List.getElem?_toArray, List.getElem?_cons_zero, List.getElem?_cons_succ]; rfl)
  case hy66 => exact y_move (by rfl) (.tmp 1) rfl (.slice (some ⟨g1, 0, none⟩) 4 4) rfl
  case hq66 => exact fun _ _ _ h => h
  try simp only [Act.put, List.setIfInBounds_toArray, List.set_cons_zero, List.set_cons_succ]
  refine wpAnyH_take (i := 59) (oi := ?o67) (v := .pointer (some ⟨g1, 36, none⟩)) ?hi67 (by kernel_rfl) (by kernel_rfl) (by kernel_rfl) ?hq67 ?hy67 hHeld ?rest67
  case hi67 => (simp only [List.getElem?_toArray, List.getElem?_cons_zero, List.getElem?_cons_succ]; rfl)
  case hy67 => exact y_idx (by rfl) (.tmp 84) 2 rfl g1 0 4 4 rfl (by decide) 36 (by decide)
  case hq67 => exact fun _ _ _ h => h
  try simp only [Act.put, List.setIfInBounds_toArray, List.set_cons_zero, List.set_cons_succ]
  refine wpAnyH_take (i := 60) (oi := ?o68) (v := .agg #[.int .i64 xC2.t, .int .i64 xC2.i, .int .u8 xC2.k, .int .u64 xC2.p0, .int .u64 xC2.p1, .int .u64 xC2.p2, .int .u64 xC2.p3, .int .u64 xC2.p4, .int .u64 xC2.p5, .int .i64 xC2.v, .int .i64 xC2.u, .int .i64 xC2.a, .int .i64 xC2.s, .int .i64 xC2.re, .bool xC2.rf, .int .u64 xC2.rk, .int .u64 xC2.rv, .int .i64 xC2.rc]) ?hi68 (by kernel_rfl) (by kernel_rfl) (by kernel_rfl) ?hq68 ?hy68 hHeld ?rest68
  case hi68 => (simp only [List.getElem?_toArray, List.getElem?_cons_zero, List.getElem?_cons_succ]; rfl)
  case hy68 => exact y_ld (by rfl) (.tmp 85) rfl g1 36 rfl xC2 (fun W h => (AT2.out.bel h AT2.out.lt))
  case hq68 => exact fun _ _ _ h => h
  try simp only [Act.put, List.setIfInBounds_toArray, List.set_cons_zero, List.set_cons_succ]
  refine wpAnyH_ready (rs := [61]) (by kernel_rfl) (by simp) ?_
  refine AllReadyH.cons (o := ?o69) ?hi69 (fun K hK => ?rest69) AllReadyH.nil
  case hi69 => (simp only [List.getElem?_toArray, List.getElem?_cons_zero, List.getElem?_cons_succ]; rfl)
  go_simp
  refine (bef xb32 _).mono ?_
  rintro e wz ⟨rfl, bz⟩
  replace hHeld := hHeld.trans (bz.mono hHeld.size)
  refine hK.out _ _ hHeld (fun _ => ?_)
  clear hK K
  try simp only [Act.put, List.setIfInBounds_toArray, List.set_cons_zero, List.set_cons_succ]
  refine wpAnyH_take (i := 62) (oi := ?o70) (v := .bool false) ?hi70 (by kernel_rfl) (by kernel_rfl) (by kernel_rfl) ?hq70 ?hy70 hHeld ?rest70
  case hi70 => (simp only [List.getElem?_toArray, List.getElem?_cons_zero, List.getElem?_cons_succ]; rfl)
  case hy70 => exact y_pick (by rfl) _ (.tmp 87) (.tmp 80) rfl rfl (.bool false) rfl
  case hq70 => exact fun _ _ _ h => h
  try simp only [Act.put, List.setIfInBounds_toArray, List.set_cons_zero, List.set_cons_succ]
  refine wpAnyH_done (by kernel_rfl) ?_ _
  clear RE1 LT AT0 AT1 AT2 AT3
  clear RE
  have RX_71 := Lib.hid (RX_6.out.below hHeld)
  clear RX_6
  have OX_72 := Lib.hid (KC.own_below OX_7.out hHeld)
  clear OX_7
  replace B := Lib.hid (bel_bel B.out hHeld)
  clear hHeld
  have LT := Lib.hid (KI.lit_rd wz [1, 0, 3, 2] #[.int .i64 1, .int .i64 0, .int .i64 3, .int .i64 2] rfl (by simp))
  have b73 := bel_alloc (Below.refl wz.heap.size wz) (.cells #[.int .i64 1, .int .i64 0, .int .i64 3, .int .i64 2] KI.E)
  have RX_74 := Lib.hid (RX_71.out.below b73)
  clear RX_71
  have OX_75 := Lib.hid (KC.own_below OX_72.out b73)
  clear OX_72
  replace B := Lib.hid (bel_bel B.out b73)
  clear b73
  go_wp2_with fail
  refine (ag_call (Agrees_any _ 4 4 [1, 0, 3, 2] rfl (by omega) _ 4 4 xH rfl (by omega) _ LT.out RX_74.out BH.out) xa1).mono ?_
  rintro e w76 ⟨rfl, b76⟩
  have RX_77 := Lib.hid (RX_74.out.below b76)
  clear RX_74
  have OX_78 := Lib.hid (KC.own_below OX_75.out b76)
  clear OX_75
  replace B := Lib.hid (bel_bel B.out b76)
  clear b76
  clear LT
  have LT := Lib.hid (KI.lit_rd w76 [0, 2, 1] #[.int .i64 0, .int .i64 2, .int .i64 1] rfl (by simp))
  have b79 := bel_alloc (Below.refl w76.heap.size w76) (.cells #[.int .i64 0, .int .i64 2, .int .i64 1] KI.E)
  have RX_80 := Lib.hid (RX_77.out.below b79)
  clear RX_77
  have OX_81 := Lib.hid (KC.own_below OX_78.out b79)
  clear OX_78
  replace B := Lib.hid (bel_bel B.out b79)
  clear b79
  go_wp2_with fail
  refine (ag_call (Agrees_any _ 3 3 [0, 2, 1] rfl (by omega) _ 4 4 xH rfl (by omega) _ LT.out RX_80.out BH.out) xa2).mono ?_
  rintro e w82 ⟨rfl, b82⟩
  have RX_83 := Lib.hid (RX_80.out.below b82)
  clear RX_80
  have OX_84 := Lib.hid (KC.own_below OX_81.out b82)
  clear OX_81
  replace B := Lib.hid (bel_bel B.out b82)
  clear b82
  clear LT
  have LT := Lib.hid (KI.lit_rd w82 [2] #[.int .i64 2] rfl (by simp))
  have b85 := bel_alloc (Below.refl w82.heap.size w82) (.cells #[.int .i64 2] KI.E)
  have RX_86 := Lib.hid (RX_83.out.below b85)
  clear RX_83
  have OX_87 := Lib.hid (KC.own_below OX_84.out b85)
  clear OX_84
  replace B := Lib.hid (bel_bel B.out b85)
  clear b85
  go_wp2_with fail
  refine (ag_call (Agrees_any _ 1 1 [2] rfl (by omega) _ 4 4 xH rfl (by omega) _ LT.out RX_86.out BH.out) xa3).mono ?_
  rintro e w88 ⟨rfl, b88⟩
  have RX_89 := Lib.hid (RX_86.out.below b88)
  clear RX_86
  have OX_90 := Lib.hid (KC.own_below OX_87.out b88)
  clear OX_87
  replace B := Lib.hid (bel_bel B.out b88)
  clear b88
  clear LT
  go_wp2_with (first | (go_at_call 29; refine (yes1 _).mono ?_; rintro e w9 ⟨rfl, rfl⟩) | (go_at_call 45; refine (no1 _).mono ?_; rintro e w9 ⟨rfl, rfl⟩))
  refine (cl_call (prefix_any 4 _ 4 4 xH _ rfl (by omega) RX_89.out BH.out) xp4 xpf (n := 2) rfl).mono ?_
  rintro e w91 ⟨A91, c91, rfl, rd91, b91⟩
  have RP := Lib.hid rd91
  clear rd91
  have RX_92 := Lib.hid (RX_89.out.below b91)
  clear RX_89
  have OX_93 := Lib.hid (KC.own_below OX_90.out b91)
  clear OX_90
  replace B := Lib.hid (bel_bel B.out b91)
  clear b91
  obtain ⟨pb, po, eA, hat0⟩ := KC.at_ RP.out (show 0 < xP.length by decide)
  obtain ⟨pb2, po2, eA2, hat1⟩ := KC.at_ RP.out (show 1 < xP.length by decide)
  subst eA
  injection eA2 with eA2
  injection eA2 with e1 e2 e3
  subst e1 e2
  rw [Nat.zero_mul, Nat.add_zero] at hat0
  rw [Nat.one_mul] at hat1
  have p1 : w91.cell? ⟨pb, po + 10, none⟩ = some (.int .i64 4) := hat0 10 _ rfl
  have p2 : w91.cell? ⟨pb, po + 11, none⟩ = some (.int .i64 (-1)) := hat0 11 _ rfl
  have p3 : w91.cell? ⟨pb, po + 12, none⟩ = some (.int .i64 0) := hat0 12 _ rfl
  have p4 : w91.cell? ⟨pb, po + 18 + 10, none⟩ = some (.int .i64 (-1)) := hat1 10 _ rfl
  clear hat0 hat1
  go_wp2_with fail
  refine (ro_call (pending_any _ 2 _ xP _ rfl (by omega) RP.out) xpe (n := 2) rfl).mono ?_
  rintro e w94 ⟨A94, c94, rfl, rd94, b94⟩
  have RQ := Lib.hid rd94
  clear rd94
  have RX_95 := Lib.hid (RX_92.out.below b94)
  clear RX_92
  have OX_96 := Lib.hid (KC.own_below OX_93.out b94)
  clear OX_93
  have RP_97 := Lib.hid (RP.out.below b94)
  clear RP
  replace B := Lib.hid (bel_bel B.out b94)
  clear b94
  clear p1 p2 p3 p4
  clear RP_97
  have LT := Lib.hid (KI.lit_rd w94 [0, 1] #[.int .i64 0, .int .i64 1] rfl (by simp))
  have b98 := bel_alloc (Below.refl w94.heap.size w94) (.cells #[.int .i64 0, .int .i64 1] KI.E)
  have RX_99 := Lib.hid (RX_95.out.below b98)
  clear RX_95
  have OX_100 := Lib.hid (KC.own_below OX_96.out b98)
  clear OX_96
  have RQ_101 := Lib.hid (RQ.out.below b98)
  clear RQ
  replace B := Lib.hid (bel_bel B.out b98)
  clear b98
  go_wp2_with fail
  refine (equI_same _ _ 2 _ 2 [0, 1] _ rfl (by omega) RQ_101.out LT.out).mono ?_
  rintro e w102 ⟨rfl, b102⟩
  have RX_103 := Lib.hid (RX_99.out.below b102)
  clear RX_99
  have OX_104 := Lib.hid (KC.own_below OX_100.out b102)
  clear OX_100
  have RQ_105 := Lib.hid (RQ_101.out.below b102)
  clear RQ_101
  replace B := Lib.hid (bel_bel B.out b102)
  clear b102
  clear LT
  clear RQ_105
  go_wp2_with fail
  refine (ro_call (of_any 1 _ 4 4 xH _ rfl (by omega) RX_103.out) rfl (n := 2) xof).mono ?_
  rintro e w106 ⟨A106, c106, rfl, rd106, b106⟩
  have RX_107 := Lib.hid (RX_103.out.below b106)
  clear RX_103
  have OX_108 := Lib.hid (KC.own_below OX_104.out b106)
  clear OX_104
  replace B := Lib.hid (bel_bel B.out b106)
  clear b106
  clear rd106
  clear RX_107
  have y11 : w106.cell? ⟨g1, 11, none⟩ = some (.int .i64 7) := OX_108.out.cellAt 11 (by decide)
  have f11 := OX_108.out.frozenAt 11
  have RW := Lib.hid (KC.row_get (n := 4) (l := xW) (show (w106.setCell ⟨g1, 11, none⟩ (.int .i64 1)).ownsRow _ KC.E KC.sz (.slice (some ⟨g1, 0, none⟩) 4 4) 4 (KC.flat xW) from (OX_108.out.stored 11 (.int .i64 1)).1))
  have BS := Lib.hid (B.out.setCell (p := ⟨g1, 11, none⟩) hg1 (.int .i64 1))
  go_wp2_with fail
  refine (check_any _ 4 4 xW _ rfl (by omega) RW.out BW.out).mono ?_
  rintro e w109 ⟨h109, b109⟩
  rw [XW.out] at h109
  subst h109
  replace B := Lib.hid (BS.out.trans (b109.mono BS.out.size))
  clear BS RW y11 f11 b109 OX_108
  have hs1 := B.out.size
  go_wp2_with fail
  refine (ex_call _).mono ?_
  rintro e w110 ⟨g2, rfl, r110, o110, hg2, b110⟩
  have RX := Lib.hid r110
  have OX := Lib.hid o110
  clear r110 o110
  replace B := Lib.hid (bel_bel B.out b110)
  clear b110
  clear RX
  have y11 : w110.cell? ⟨g2, 10, none⟩ = some (.int .i64 4) := OX.out.cellAt 10 (by decide)
  have f11 := OX.out.frozenAt 10
  have RW := Lib.hid (KC.row_get (n := 4) (l := xV) (show (w110.setCell ⟨g2, 10, none⟩ (.int .i64 5)).ownsRow _ KC.E KC.sz (.slice (some ⟨g2, 0, none⟩) 4 4) 4 (KC.flat xV) from (OX.out.stored 10 (.int .i64 5)).1))
  have BS := Lib.hid (B.out.setCell (p := ⟨g2, 10, none⟩) (Nat.le_trans hs1 hg2) (.int .i64 5))
  go_wp2_with fail
  refine (check_any _ 4 4 xV _ rfl (by omega) RW.out BV.out).mono ?_
  rintro e w111 ⟨h111, b111⟩
  rw [XV.out] at h111
  subst h111
  replace B := Lib.hid (BS.out.trans (b111.mono BS.out.size))
  clear BS RW y11 f11 b111 OX
  go_wp2
  go_ret
  exact ⟨rfl, B.out⟩
abbrev RdV (w : World) (A : Option Addr) (l : List C) : Prop := KC.Rd w A l
abbrev BdV (l : List C) : Prop := Bd l
end Hi
end Go.Proofs.Ytgfhfcjjodcgdaa
