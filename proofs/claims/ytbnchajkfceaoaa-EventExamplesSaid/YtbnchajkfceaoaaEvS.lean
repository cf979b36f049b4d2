/- leapfrogref11: Open, Inside, Prefix, Of: contracts of the translated code. Conditions: those of each lemma. -/
import Derived.Test.YtbnchajkfceaoaaEvR
namespace Go.Proofs.Ytbnchajkfceaoaa
open Go.RowKit Go.Sort
set_option linter.unusedVariables false
set_option linter.unusedSimpArgs false
namespace Ev
variable {α : Type}
def i0 : I := ⟨0, 0, 0, 0⟩
theorem getD_getI {l : List I} {i : Nat} (h : i < l.length) : l.getD i i0 = l[i] := by
  rw [List.getD_eq_getElem?_getD, List.getElem?_eq_getElem h]; rfl
theorem KS.at_ {w : World} {A : Option Addr} {l : List I} (h : KS.Rd w A l) {i : Nat} (hi : i < l.length) : ∃ b o, A = some ⟨b, o, none⟩ ∧ w.cell? ⟨b, o + i * 4, none⟩ = some (.int .i64 (l.getD i i0).t) ∧ w.cell? ⟨b, o + i * 4 + 1, none⟩ = some (.int .u64 (l.getD i i0).v) ∧ w.cell? ⟨b, o + i * 4 + 2, none⟩ = some (.int .i64 (l.getD i i0).a) ∧ w.cell? ⟨b, o + i * 4 + 3, none⟩ = some (.int .i64 (l.getD i i0).b) := by
  rw [getD_getI hi]
  obtain ⟨b, o, e, c⟩ := h i _ (List.getElem?_eq_getElem hi)
  exact ⟨b, o, e, KS.cells c⟩
theorem KW.at_ {w : World} {A : Option Addr} {l : List I} (h : KW.Rd w A l) {i : Nat} (hi : i < l.length) : ∃ b o, A = some ⟨b, o, none⟩ ∧ w.cell? ⟨b, o + i * 4, none⟩ = some (.int .i64 (l.getD i i0).t) ∧ w.cell? ⟨b, o + i * 4 + 1, none⟩ = some (.int .u64 (l.getD i i0).v) ∧ w.cell? ⟨b, o + i * 4 + 2, none⟩ = some (.int .i64 (l.getD i i0).a) ∧ w.cell? ⟨b, o + i * 4 + 3, none⟩ = some (.int .i64 (l.getD i i0).b) := by
  rw [getD_getI hi]
  obtain ⟨b, o, e, c⟩ := h i _ (List.getElem?_eq_getElem hi)
  exact ⟨b, o, e, KW.cells c⟩
/-- a section in a block of its own -/
def Bs (W : World) (b : Nat) (x : I) : Prop := W.heap[b]? = some (.cells #[.int .i64 x.t, .int .u64 x.v, .int .i64 x.a, .int .i64 x.b] 41 (0, 0))
theorem Bs.lt {W : World} {b : Nat} {x : I} (h : Bs W b x) : b < W.heap.size := (Array.getElem?_eq_some_iff.1 h).1
theorem Bs.new (W : World) (x : I) : Bs (W.alloc (.cells #[.int .i64 x.t, .int .u64 x.v, .int .i64 x.a, .int .i64 x.b] 41)) W.heap.size x := (MapKept.heap_alloc W _).1
theorem Bs.same {W W' : World} {b : Nat} {x : I} (h : Bs W b x) (hb : W'.heap[b]? = W.heap[b]?) : Bs W' b x := hb.trans h
theorem Bs.below {W W' : World} {b n : Nat} {x : I} (h : Bs W b x) (bel : Below n W W') (hn : b < n) : Bs W' b x := h.same (bel.block b hn)
theorem Bs.alloc {W : World} {b : Nat} {x : I} (h : Bs W b x) (o : Obj) : Bs (W.alloc o) b x := h.same ((MapKept.heap_alloc W o).2 b h.lt)
theorem Bs.c {W : World} {b : Nat} {x : I} (h : Bs W b x) : W.cell? ⟨b, 0, none⟩ = some (.int .i64 x.t) ∧ W.cell? ⟨b, 1, none⟩ = some (.int .u64 x.v) ∧ W.cell? ⟨b, 2, none⟩ = some (.int .i64 x.a) ∧ W.cell? ⟨b, 3, none⟩ = some (.int .i64 x.b) := by
  refine ⟨?_, ?_, ?_, ?_⟩ <;> simp [World.cell?, show W.heap[b]? = _ from h]
theorem Bs.frozen {W : World} {b : Nat} {x : I} (h : Bs W b x) (k : Nat) : W.frozen? ⟨b, k, none⟩ = false := by simp [World.frozen?, show W.heap[b]? = _ from h]
theorem Bs.f {W : World} {b : Nat} {x : I} (h : Bs W b x) : W.frozen? ⟨b, 0, none⟩ = false ∧ W.frozen? ⟨b, 1, none⟩ = false ∧ W.frozen? ⟨b, 2, none⟩ = false ∧ W.frozen? ⟨b, 3, none⟩ = false := ⟨h.frozen 0, h.frozen 1, h.frozen 2, h.frozen 3⟩
theorem Bs.set {W : World} {b : Nat} {x : I} (h : Bs W b x) (y : I) : Bs ((((W.setCell ⟨b, 0, none⟩ (.int .i64 y.t)).setCell ⟨b, 1, none⟩ (.int .u64 y.v)).setCell ⟨b, 2, none⟩ (.int .i64 y.a)).setCell ⟨b, 3, none⟩ (.int .i64 y.b)) b y := by
  unfold Bs
  rw [set_block (set_block (set_block (set_block h 0 _) 1 _) 2 _) 3 _]
  rfl
theorem bel_set4 {n : Nat} {w W : World} (h : Below n w W) {b : Nat} (hb : n ≤ b) (v0 v1 v2 v3 : Value) : Below n w ((((W.setCell ⟨b, 0, none⟩ v0).setCell ⟨b, 1, none⟩ v1).setCell ⟨b, 2, none⟩ v2).setCell ⟨b, 3, none⟩ v3) :=
  (((h.setCell (p := ⟨b, 0, none⟩) hb _).setCell (p := ⟨b, 1, none⟩) hb _).setCell (p := ⟨b, 2, none⟩) hb _).setCell (p := ⟨b, 3, none⟩) hb _
theorem Kd.at_new (K : Kd α) (W : World) (y : α) (cs : Array Value) (hcs : cs.toList = K.enc y) : K.At (W.alloc (.cells cs K.E)) W.heap.size 0 y := fun j u hj => by
  rw [← hcs] at hj
  rw [Nat.zero_add]
  have h : (W.alloc (.cells cs K.E)).heap[W.heap.size]? = some (.cells cs K.E) := (MapKept.heap_alloc W _).1
  simp only [World.cell?, h]
  rw [Array.getElem?_toList] at hj
  exact hj
/-- 'append(l, a)' of an element that was just laid -/
theorem Kd.app (K : Kd α) {ops : Array Oper} {rest : List Oper} {o : Oper} {a : Act} {Q : Exit → Act → World → Prop} (hgd : o.guard = none) (s x : Operand)
    (ho : o.op = .call { callee := .builtin .append, args := #[s, x], argTypes := #[K.S, K.S] }) (W : World) (base : Nat) (v : Value) (ys : List α) (y : α) (cs : Array Value) (hcs : cs.toList = K.enc y)
    (hs : a.eval s = v) (hx : a.eval x = .slice (some ⟨W.heap.size, 0, none⟩) 1 1) (hown : W.ownsRow base K.E K.sz v ys.length (K.flat ys)) (hn : ys.length ≤ 100000) (hb : base ≤ W.heap.size)
    (h : ∀ v' w', w'.ownsRow base K.E K.sz v' (ys ++ [y]).length (K.flat (ys ++ [y])) → Below base W w' → (∀ k, k < W.heap.size → v.ownBlock ≠ some k → w'.heap[k]? = W.heap[k]?) → wpList Try.prog ops Q rest (a.put o.dst v') w') :
    wpList Try.prog ops Q (o :: rest) a (W.alloc (.cells cs K.E)) := by
  refine K.app1 hgd s x ho (W.alloc (.cells cs K.E)) base ys.length v ys y hs W.heap.size hx (K.at_new W y cs hcs) (K.own_below hown (bel_alloc (Below.refl _ _) _)) hn (by rw [World.size_alloc]; omega) ?_
  intro v' w' h1 h2
  refine h v' w' (by rw [List.length_append]; exact h1) (((Below.refl _ W).alloc hb _).trans (h2.bel (by rw [World.size_alloc]; omega) fun k hk => (hown.lt k hk).1)) fun k hk hne => ?_
  rw [h2.blk k (by rw [World.size_alloc]; omega) hne]
  exact (MapKept.heap_alloc W _).2 k hk
/-- a list in memory as the only result -/
def RoPost (K : Kd α) (xs : List α) (w : World) (e : Ending) (w' : World) : Prop :=
  ∃ v, e = .returned v ∧ w'.ownsRow w.heap.size K.E K.sz v xs.length (K.flat xs) ∧ Below w.heap.size w w'
theorem upto_snoc (st : Int) (l : List E) (e : E) : upto st (l ++ [e]) = if e.s ≤ st then upto st l ++ [e] else upto st l := by
  unfold upto
  rw [List.filter_append]
  by_cases h : e.s ≤ st
  · rw [if_pos h, List.filter_cons_of_pos (by simpa using h), List.filter_nil]
  · rw [if_neg h, List.filter_cons_of_neg (by simpa using h), List.filter_nil, List.append_nil]
theorem ofT_len (t : Int) (l : List E) : (ofT t l).length ≤ l.length := List.length_filter_le _ _
theorem upto_len (t : Int) (l : List E) : (upto t l).length ≤ l.length := List.length_filter_le _ _
theorem opn_len (t : Int) (l : List I) : (opn t l).length ≤ l.length := by unfold opn; rw [List.length_map]; exact List.length_filter_le _ _
theorem opn_snoc (st : Int) (l : List I) (x : I) : opn st (l ++ [x]) = if openB st x = true then opn st l ++ [clos x] else opn st l := by
  unfold opn
  rw [List.filter_append]
  by_cases h : openB st x = true
  · rw [if_pos h, List.filter_cons_of_pos h, List.filter_nil, List.map_append]; rfl
  · rw [if_neg h, List.filter_cons_of_neg h, List.filter_nil, List.append_nil]
set_option maxRecDepth 100000 in
set_option maxHeartbeats 1000000 in
theorem ofR_any (t : Int) (A : Option Addr) (n c : Nat) (l : List E) (w : World) (hl : l.length = n) (hx : n ≤ 1000) (hr : KE.Rd w A l) :
    Calls Try.prog 27 #[.int .i64 t, .slice A n c] w (RoPost KE (ofT t l) w) := by
  have HL := Lib.hid hl
  have HR := Lib.hid hr
  clear hl hr
  have HP := Lib.hid (show ∀ v w', w'.ownsRow w.heap.size KE.E KE.sz v (ofT t l).length (KE.flat (ofT t l)) → Below w.heap.size w w' → RoPost KE (ofT t l) w (.returned v) w' from fun v w' h1 h2 => ⟨v, rfl, h1, h2⟩)
  go_enter Try.func27, Try.ntmps27
  go_wp2
  go_loopw [5, 6] (fun q i wr => ∃ (k : Nat), k ≤ n ∧ i = .int .i64 k ∧ wr.ownsRow w.heap.size KE.E KE.sz q (ofT t (l.take k)).length (KE.flat (ofT t (l.take k))) ∧ Below w.heap.size w wr) (fun q i _ => n - (intOf i).toNat)
  case atStart => exact ⟨0, Nat.zero_le _, rfl, KE.nil _ _, Below.refl _ _⟩
  case round =>
    obtain ⟨j, hj, rfl, ow, bel⟩ := hrel
    obtain ⟨wq, rfl⟩ : ∃ wq : World, wq = wr := ⟨_, rfl⟩
    by_cases hlt : j < n
    · have hjl : j < l.length := by have := HL.out; omega
      have d0 : decide ((j : Int) < n) = true := decide_eq_true (by omega)
      have j1 : (j : Int) < n := by omega
      obtain ⟨b, o, rfl, c0, c1, c2, c3⟩ := KE.at_ (HR.out.below bel) hjl
      have HN := Lib.hid (show ofT t (l.take (j + 1)) = _ by rw [take_get (d := e0) hjl, ofT_snoc])
      have hlen := ofT_len t (l.take j)
      rw [List.length_take] at hlen
      generalize l.getD j e0 = y at *
      obtain ⟨ys, yt, yk, yv⟩ := y
      simp only at c0 c1 c2 c3 HN
      obtain ⟨L, hL⟩ : ∃ L, ofT t (l.take j) = L := ⟨_, rfl⟩
      rw [hL] at ow HN hlen
      have OW := Lib.hid ow
      clear hL ow
      by_cases ht : yt = t
      · have t0 : (yt == t) = true := by simpa using ht
        rw [if_pos ht] at HN
        clear ht
        go_wp2_with (at_builtin; refine KE.app rfl (.tmp 20) (.tmp 25) rfl wq w.heap.size _ L ⟨ys, yt, yk, yv⟩ #[.int .i64 ys, .int .i64 yt, .int .u8 yk, .int .u64 yv] rfl rfl rfl OW.out (by omega) bel.size ?_; intro v1 w1 h1 b1 _)
        go_roundw
        case rel => exact ⟨j + 1, by omega, by go_num, by rw [HN.out]; exact h1, bel.trans b1⟩
        case measure => simp [intOf]; omega
      · have t0 : (yt == t) = false := by simpa using ht
        rw [if_neg ht] at HN
        clear ht
        go_wp2
        go_roundw
        case rel => exact ⟨j + 1, by omega, by go_num, by rw [HN.out]; exact OW.out, bel⟩
        case measure => simp [intOf]; omega
    · obtain rfl : j = n := by omega
      have d0 : decide ((j : Int) < j) = false := by simp
      have HT := Lib.hid (show l.take j = l from List.take_of_length_le (by rw [HL.out]; omega))
      have OW := Lib.hid ow
      clear ow
      go_wp2
      go_ret
      exact HP.out _ _ (by have h := OW.out; rw [HT.out] at h; exact h) bel
/-- the error of Open and Prefix -/
def erS (st : Int) (l : List E) : Int := if chk l = none then if st < -1 then 3 else 0 else 15
def upL (st : Int) (l : List E) : List E := if erS st l = 0 then upto st l else []
def opL (st : Int) (l : List E) : List I := if erS st l = 0 then opn st (ivs 1 l) else []
theorem erS_ok {st : Int} {l : List E} (h : chk l = none) (h1 : -1 ≤ st) : erS st l = 0 := by unfold erS; rw [if_pos h, if_neg (by omega)]
theorem erS_low {st : Int} {l : List E} (h : chk l = none) (h1 : st < -1) : erS st l = 3 := by unfold erS; rw [if_pos h, if_pos h1]
theorem erS_no {st : Int} {l : List E} (h : ¬ chk l = none) : erS st l = 15 := by unfold erS; rw [if_neg h]
theorem upL_ok {st : Int} {l : List E} (h : erS st l = 0) : upL st l = upto st l := by unfold upL; rw [if_pos h]
theorem upL_no {st : Int} {l : List E} (h : erS st l ≠ 0) : upL st l = [] := by unfold upL; rw [if_neg h]
theorem opL_ok {st : Int} {l : List E} (h : erS st l = 0) : opL st l = opn st (ivs 1 l) := by unfold opL; rw [if_pos h]
theorem opL_no {st : Int} {l : List E} (h : erS st l ≠ 0) : opL st l = [] := by unfold opL; rw [if_neg h]
set_option maxRecDepth 100000 in
set_option maxHeartbeats 1000000 in
theorem prefixR_any (st : Int) (A : Option Addr) (n c : Nat) (l : List E) (w : World) (hl : l.length = n) (hx : n ≤ 1000) (hr : KE.Rd w A l) :
    Calls Try.prog 25 #[.int .i64 st, .slice A n c] w (RwPost KE (erS st l) (upL st l) w) := by
  have CC := fun (W : World) (h : KE.Rd W A l) => Lib.hid (checkR_any A n c l W hl (by unfold maxLen; omega) h)
  have HL := Lib.hid hl
  have HR := Lib.hid hr
  clear hl hr
  by_cases hok : chk l = none
  · rw [chkV_none hok] at CC
    by_cases hst : st < -1
    · have HP := Lib.hid (show ∀ w', Below w.heap.size w w' → RwPost KE (erS st l) (upL st l) w (.returned (.tuple #[.slice none 0 0, .int .i64 3])) w' from fun w' h2 => ⟨_, by rw [erS_low hok hst], by rw [upL_no (by rw [erS_low hok hst]; decide)]; exact KE.nil _ _, h2⟩)
      have d1 := decide_eq_true hst
      clear hok hst
      go_enter Try.func25, Try.ntmps25
      go_wp2_with fail
      refine (CC _ HR.out).out.mono ?_
      rintro e w0 ⟨rfl, b0⟩
      go_wp2
      go_ret2
      exact HP.out _ b0
    · have HP := Lib.hid (show ∀ v w', w'.ownsRow w.heap.size KE.E KE.sz v (upto st l).length (KE.flat (upto st l)) → Below w.heap.size w w' → RwPost KE (erS st l) (upL st l) w (.returned (.tuple #[v, .int .i64 0])) w' from fun v w' h1 h2 => ⟨v, by rw [erS_ok hok (by omega)], by rw [upL_ok (erS_ok hok (by omega))]; exact h1, h2⟩)
      have d1 := decide_eq_false hst
      clear hok hst
      go_enter Try.func25, Try.ntmps25
      go_wp2_with fail
      refine (CC _ HR.out).out.mono ?_
      rintro e w0 ⟨rfl, b0⟩
      go_wp2
      go_loopw [8, 9] (fun q i wr => ∃ (k : Nat), k ≤ n ∧ i = .int .i64 k ∧ wr.ownsRow w.heap.size KE.E KE.sz q (upto st (l.take k)).length (KE.flat (upto st (l.take k))) ∧ Below w.heap.size w wr) (fun q i _ => n - (intOf i).toNat)
      case atStart => exact ⟨0, Nat.zero_le _, rfl, KE.nil _ _, b0⟩
      case round =>
        obtain ⟨j, hj, rfl, ow, bel⟩ := hrel
        obtain ⟨wq, rfl⟩ : ∃ wq : World, wq = wr := ⟨_, rfl⟩
        clear CC
        by_cases hlt : j < n
        · have hjl : j < l.length := by have := HL.out; omega
          have d0 : decide ((j : Int) < n) = true := decide_eq_true (by omega)
          have j1 : (j : Int) < n := by omega
          obtain ⟨b, o, rfl, c0, c1, c2, c3⟩ := KE.at_ (HR.out.below bel) hjl
          have HN := Lib.hid (show upto st (l.take (j + 1)) = _ by rw [take_get (d := e0) hjl, upto_snoc])
          have hlen := upto_len st (l.take j)
          rw [List.length_take] at hlen
          generalize l.getD j e0 = y at *
          obtain ⟨ys, yt, yk, yv⟩ := y
          simp only at c0 c1 c2 c3 HN
          obtain ⟨L, hL⟩ : ∃ L, upto st (l.take j) = L := ⟨_, rfl⟩
          rw [hL] at ow HN hlen
          have OW := Lib.hid ow
          clear hL ow
          by_cases ht : ys ≤ st
          · have t0 := decide_eq_true ht
            rw [if_pos ht] at HN
            clear ht
            go_wp2_with (at_builtin; refine KE.app rfl (.tmp 33) (.tmp 38) rfl wq w.heap.size _ L ⟨ys, yt, yk, yv⟩ #[.int .i64 ys, .int .i64 yt, .int .u8 yk, .int .u64 yv] rfl rfl rfl OW.out (by omega) bel.size ?_; intro v1 w1 h1 b1 _)
            go_roundw
            case rel => exact ⟨j + 1, by omega, by go_num, by rw [HN.out]; exact h1, bel.trans b1⟩
            case measure => simp [intOf]; omega
          · have t0 := decide_eq_false ht
            rw [if_neg ht] at HN
            clear ht
            go_wp2
            go_roundw
            case rel => exact ⟨j + 1, by omega, by go_num, by rw [HN.out]; exact OW.out, bel⟩
            case measure => simp [intOf]; omega
        · obtain rfl : j = n := by omega
          have d0 : decide ((j : Int) < j) = false := by simp
          have HT := Lib.hid (show l.take j = l from List.take_of_length_le (by rw [HL.out]; omega))
          have OW := Lib.hid ow
          clear ow
          go_wp2
          go_ret2
          exact HP.out _ _ (by have h := OW.out; rw [HT.out] at h; exact h) bel
  · have HP := Lib.hid (show ∀ w', Below w.heap.size w w' → RwPost KE (erS st l) (upL st l) w (.returned (.tuple #[.slice none 0 0, .int .i64 15])) w' from fun w' h2 => ⟨_, by rw [erS_no hok], by rw [upL_no (by rw [erS_no hok]; decide)]; exact KE.nil _ _, h2⟩)
    rw [show chkV l = .tuple #[.int .i64 (chkAt l : Nat), .int .i64 15] by rw [chkV_eq, erC_no hok]] at CC
    generalize chkAt l = at_ at *
    clear hok
    go_enter Try.func25, Try.ntmps25
    go_wp2_with fail
    refine (CC _ HR.out).out.mono ?_
    rintro e w0 ⟨rfl, b0⟩
    go_wp2
    go_ret2
    exact HP.out _ b0
end Ev
end Go.Proofs.Ytbnchajkfceaoaa
