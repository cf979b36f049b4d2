/- Package history: the iterator over the calls of a thread, and Of: contracts of the translated code. Conditions: at most 1,000 calls. Written by tools/mk12i.py. -/
import Derived.Test.YtgfhfcjjodcgdaaHiG
namespace Go.Proofs.Ytgfhfcjjodcgdaa
open Go.RowKit Go.Shelf Go.Sort
set_option linter.unusedVariables false
set_option linter.unusedSimpArgs false
attribute [local go_sem] Oper.semAt_some
namespace Hi
/-- a call as a value -/
def cv (x : C) : Value := .agg #[.int .i64 x.t, .int .i64 x.i, .int .u8 x.k, .int .u64 x.p0, .int .u64 x.p1, .int .u64 x.p2, .int .u64 x.p3, .int .u64 x.p4, .int .u64 x.p5, .int .i64 x.v, .int .i64 x.u, .int .i64 x.a, .int .i64 x.s, .int .i64 x.re, .bool x.rf, .int .u64 x.rk, .int .u64 x.rv, .int .i64 x.rc]
/-- the places of the calls of a thread -/
def tiK (t : Int) (l : List C) (n : Nat) : List (Fin l.length) := ((List.finRange l.length).take n).filter fun i => decide ((l.getD i.val c0).t = t)
def tiL (t : Int) (l : List C) : List (Fin l.length) := tiK t l l.length
theorem finRange_take {n k : Nat} (h : k < n) : (List.finRange n).take (k + 1) = (List.finRange n).take k ++ [⟨k, h⟩] := by
  rw [List.take_succ_eq_append_getElem (by simpa using h)]; simp
theorem tiK_yes {t : Int} {l : List C} {k : Nat} (hk : k < l.length) (h : (l.getD k c0).t = t) : tiK t l (k + 1) = tiK t l k ++ [⟨k, hk⟩] := by
  unfold tiK
  rw [finRange_take hk, List.filter_append, List.filter_cons_of_pos (by simpa using h)]; rfl
theorem tiK_no {t : Int} {l : List C} {k : Nat} (hk : k < l.length) (h : ¬ (l.getD k c0).t = t) : tiK t l (k + 1) = tiK t l k := by
  unfold tiK
  rw [finRange_take hk, List.filter_append, List.filter_cons_of_neg (by simpa using h)]; simp
theorem tiK_pre (t : Int) (l : List C) (n : Nat) : tiK t l n <+: tiL t l := by
  unfold tiL tiK
  refine List.IsPrefix.filter _ ?_
  rw [List.take_of_length_le (i := l.length) (by simp)]
  exact List.take_prefix _ _
theorem tiL_len (t : Int) (l : List C) : (tiL t l).length ≤ l.length := by
  unfold tiL tiK
  have h1 := List.length_filter_le (fun i : Fin l.length => decide ((l.getD i.val c0).t = t)) ((List.finRange l.length).take l.length)
  have h2 : ((List.finRange l.length).take l.length).length ≤ l.length := by rw [List.length_take]; simp
  omega
def tiC {l : List C} (pre : List (Fin l.length)) : List C := pre.map fun i => l.getD i.val c0
theorem tiC_snoc {l : List C} (pre : List (Fin l.length)) (i : Fin l.length) : tiC (pre ++ [i]) = tiC pre ++ [l.getD i.val c0] := by simp [tiC]
theorem tiK_of (t : Int) (l : List C) : ∀ n, n ≤ l.length → tiC (tiK t l n) = ofT t (l.take n)
  | 0, _ => by simp [tiC, tiK, ofT]
  | n + 1, h => by
    have ih := tiK_of t l n (by omega)
    have hk : n < l.length := by omega
    rw [take_get (d := c0) hk]
    unfold ofT at ih ⊢
    rw [List.filter_append, ← ih]
    by_cases e : (l.getD n c0).t = t
    · rw [tiK_yes hk e, tiC_snoc, List.filter_cons_of_pos (by simpa using e)]; rfl
    · rw [tiK_no hk e, List.filter_cons_of_neg (by simpa using e)]; simp
theorem tiL_of (t : Int) (l : List C) : tiC (tiL t l) = ofT t l := by
  have := tiK_of t l l.length (Nat.le_refl _)
  rw [List.take_length] at this
  exact this
theorem KX.lt {X : Nat → Prop} {W W' : World} (h : KX X W W') {b : Nat} (hb : X b) (hl : b < W.heap.size) : b < W'.heap.size := by
  have h1 : W.heap[b]? = some W.heap[b] := Array.getElem?_eq_getElem hl
  have h2 := (h b hb).trans h1
  exact (Array.getElem?_eq_some_iff.1 h2).1
theorem KX.alloc {X : Nat → Prop} {W : World} (hX : ∀ b, X b → b < W.heap.size) (o : Obj) : KX X W (W.alloc o) := fun b hb => (MapKept.heap_alloc W o).2 b (hX b hb)
set_option maxRecDepth 100000 in
set_option maxHeartbeats 2000000 in
theorem calls1_in (F : Fence) (n : Nat) (h7 : F.fn 60) (hro : F.round = none) (hn : 1 ≤ n) (lp Bp Bt : Nat) (t : Int)
    (A : Option Addr) (m c : Nat) (l : List C) (hl : l.length = m) (hm : m ≤ 1000) (X : Nat → Prop) (X1 : X Bp) (X2 : X Bt) (X3 : 0 < l.length → ∀ a, A = some a → X a.block) (J Jx : List (Fin l.length) → World → Prop)
    (hJ0 : ∀ pre W o, J pre W → J pre (W.alloc o))
    (hY : ∀ pre i W, J pre W → pre.length < (tiL t l).length → YieldAt F (n - 1) Try.prog lp #[cv (l.getD i.val c0)] W fun e W' =>
      (e = .returned (.bool true) ∧ J (pre ++ [i]) W' ∧ KX X W W') ∨ (e = .returned (.bool false) ∧ Jx (pre ++ [i]) W'))
    (W : World) (hX : ∀ b, X b → b < W.heap.size) (hBp : W.cell? ⟨Bp, 0, none⟩ = some (.slice A m c)) (hBt : W.cell? ⟨Bt, 0, none⟩ = some (.int .i64 t)) (hrd : KC.Rd W A l) (h0 : J [] W) :
    CallsIn F n Try.prog 60 #[.func (.yield lp) #[] #[], .pointer (some ⟨Bp, 0, none⟩), .pointer (some ⟨Bt, 0, none⟩)] W fun e W' => (∃ v, e = .returned v) ∧
      ((∃ ys, ys = tiL t l ∧ J ys W') ∨ (∃ pre, pre <+: tiL t l ∧ Jx pre W')) := by
  have HR := Lib.hid hrd; clear hrd
  have HL := Lib.hid hl; clear hl
  have HBt := Lib.hid hBt; clear hBt
  refine callsIn_of_wp Try.func60 rfl h7 ?_ hro
  simp only [Try.ntmps60, List.size_toArray, List.length_cons, List.length_nil, Nat.reduceAdd, Nat.reduceSub, Array.replicate_succ, Array.replicate_zero, List.push_toArray, List.append_toArray, List.nil_append, List.cons_append]
  gi_wp2
  clear hBp
  gi_loopw [8] (fun i wr => ∃ k : Nat, k ≤ m ∧ i = .int .i64 k ∧ J (tiK t l k) wr ∧ KX X W wr)
    (fun i _ => m - (intOf i).toNat)
  case atStart => exact ⟨0, Nat.zero_le _, rfl, h0, KX.refl _ _⟩
  case round =>
    obtain ⟨k, hk, rfl, hJs, hkx⟩ := hrel
    obtain ⟨wq, rfl⟩ : ∃ wq : World, wq = wr := ⟨_, rfl⟩
    have hXq : ∀ b, X b → b < wq.heap.size := fun b hb => hkx.lt hb (hX b hb)
    have HK := Lib.hid hkx; clear hkx
    by_cases hlt : k < m
    · have hkl : k < l.length := by have := HL.out; omega
      obtain ⟨b, o, rfl, at0⟩ := KC.at_ (HK.out.rd (X3 (by omega)) HR.out) hkl
      have gt : (wq.alloc (.cells #[.int .i64 (l.getD k c0).t, .int .i64 (l.getD k c0).i, .int .u8 (l.getD k c0).k, .int .u64 (l.getD k c0).p0, .int .u64 (l.getD k c0).p1, .int .u64 (l.getD k c0).p2, .int .u64 (l.getD k c0).p3, .int .u64 (l.getD k c0).p4, .int .u64 (l.getD k c0).p5, .int .i64 (l.getD k c0).v, .int .i64 (l.getD k c0).u, .int .i64 (l.getD k c0).a, .int .i64 (l.getD k c0).s, .int .i64 (l.getD k c0).re, .bool (l.getD k c0).rf, .int .u64 (l.getD k c0).rk, .int .u64 (l.getD k c0).rv, .int .i64 (l.getD k c0).rc] 47)).cell? ⟨Bt, 0, none⟩ = some (.int .i64 t) := by
        rw [World.cell?_alloc_lt _ _ _ (hXq _ X2)]
        exact (HK.out.cell X2 _).trans HBt.out
      have kx1 := Lib.hid (show KX X W (wq.alloc (.cells #[.int .i64 (l.getD k c0).t, .int .i64 (l.getD k c0).i, .int .u8 (l.getD k c0).k, .int .u64 (l.getD k c0).p0, .int .u64 (l.getD k c0).p1, .int .u64 (l.getD k c0).p2, .int .u64 (l.getD k c0).p3, .int .u64 (l.getD k c0).p4, .int .u64 (l.getD k c0).p5, .int .i64 (l.getD k c0).v, .int .i64 (l.getD k c0).u, .int .i64 (l.getD k c0).a, .int .i64 (l.getD k c0).s, .int .i64 (l.getD k c0).re, .bool (l.getD k c0).rf, .int .u64 (l.getD k c0).rk, .int .u64 (l.getD k c0).rv, .int .i64 (l.getD k c0).rc] 47)) from HK.out.trans (KX.alloc hXq _))
      have J1 := Lib.hid (hJ0 _ _ (.cells #[.int .i64 (l.getD k c0).t, .int .i64 (l.getD k c0).i, .int .u8 (l.getD k c0).k, .int .u64 (l.getD k c0).p0, .int .u64 (l.getD k c0).p1, .int .u64 (l.getD k c0).p2, .int .u64 (l.getD k c0).p3, .int .u64 (l.getD k c0).p4, .int .u64 (l.getD k c0).p5, .int .i64 (l.getD k c0).v, .int .i64 (l.getD k c0).u, .int .i64 (l.getD k c0).a, .int .i64 (l.getD k c0).s, .int .i64 (l.getD k c0).re, .bool (l.getD k c0).rf, .int .u64 (l.getD k c0).rk, .int .u64 (l.getD k c0).rv, .int .i64 (l.getD k c0).rc] 47) hJs)
      have TY := fun h => Lib.hid (tiK_yes (t := t) hkl h)
      have TN := fun h => Lib.hid (tiK_no (t := t) hkl h)
      have hYk := fun hp => hY (tiK t l k) ⟨k, hkl⟩ _ J1.out hp
      have d0 : decide ((k : Int) < m) = true := decide_eq_true (by omega)
      have AT := Lib.hid at0
      have AN := Lib.hid (KC.at_new wq (l.getD k c0))
      clear at0 hJs hY
      by_cases ht : (l.getD k c0).t = t
      · have d1 : ((l.getD k c0).t == t) = true := by simpa using ht
        have HN := TY ht
        obtain ⟨fn, tmps, assign, body, hy, hRd⟩ := hYk (by
          have h1 := (tiK_pre t l (k + 1)).length_le
          have h2 := congrArg List.length HN.out
          simp only [List.length_append, List.length_cons, List.length_nil] at h2
          omega)
        clear hYk TY TN ht
        unfold cv at hy
        generalize l.getD k c0 = x at *
        gi_wp2_with (first | (refine ldIn rfl (.tmp 10) rfl b (o + k * 18) rfl x AT.out ?_) | (refine stIn_new rfl (.tmp 5) (.tmp 11) rfl wq _ rfl rfl rfl x rfl ?_) | (refine ldInG (by rfl) (.tmp 5) rfl _ _ rfl x AN.out ?_))
        refine hRd.mono ?_
        rintro e W3 (⟨rfl, hJ3, hk3⟩ | ⟨rfl, hJx3⟩)
        · have HK3 := Lib.hid (kx1.out.trans hk3)
          have HJ3 := Lib.hid hJ3
          clear kx1 J1 AT AN gt HK hRd hk3 hJ3
          gi_wp2
          go_roundw
          case rel => exact ⟨k + 1, by omega, by go_num, by rw [HN.out]; exact HJ3.out, HK3.out⟩
          case measure => simp [intOf]; omega
        · have HJ3 := Lib.hid hJx3
          clear kx1 J1 AT AN gt HK hRd hJx3
          gi_wp2
          refine bodyPost_ret (results_none rfl _ _ _) rfl ?_
          exact ⟨⟨_, rfl⟩, .inr ⟨_, by rw [← HN.out]; exact tiK_pre t l (k + 1), HJ3.out⟩⟩
      · have d1 : ((l.getD k c0).t == t) = false := by simpa using ht
        have HN := TN ht
        clear hYk TY TN ht
        generalize l.getD k c0 = x at *
        gi_wp2_with (first | (refine ldIn rfl (.tmp 10) rfl b (o + k * 18) rfl x AT.out ?_) | (refine stIn_new rfl (.tmp 5) (.tmp 11) rfl wq _ rfl rfl rfl x rfl ?_))
        refine ⟨fun _ h => (by cases h), ?_⟩
        gi_wp2
        go_roundw
        case rel => exact ⟨k + 1, by omega, by go_num, by rw [HN.out]; exact J1.out, kx1.out⟩
        case measure => simp [intOf]; omega
    · obtain rfl : k = m := by omega
      have HX := Lib.hid (show tiK t l k = tiL t l by have := HL.out; unfold tiL; congr 1; omega)
      have d0 : decide ((k : Int) < k) = false := by simp
      gi_wp2
      go_end0
      exact ⟨⟨_, rfl⟩, .inl ⟨_, HX.out, hJs⟩⟩
theorem callsOf_in (F : Fence) (n : Nat) (h : F.fn 36) (hro : F.round = none) (t : Int) (A : Option Addr) (m c : Nat) (w : World) :
    CallsIn F n Try.prog 36 #[.int .i64 t, .slice A m c] w fun e w' => e = .returned (.func (.func 60) #[] #[.pointer (some ⟨w.heap.size + 1, 0, none⟩), .pointer (some ⟨w.heap.size, 0, none⟩)]) ∧ w' = (w.alloc (.cells #[.int .i64 t] 3)).alloc (.cells #[.slice A m c] 22) := by
  refine callsIn_of_wp Try.func36 rfl h ?_ hro
  simp only [Try.ntmps36, List.size_toArray, List.length_cons, List.length_nil, Nat.reduceAdd, Nat.reduceSub, Array.replicate_succ, Array.replicate_zero, List.push_toArray, List.append_toArray, List.nil_append, List.cons_append]
  gi_wp2
  go_ret
  exact ⟨rfl, rfl⟩
theorem calls_stops (F : Fence) (hF : ∀ f, F.fn f) (hro : F.round = none) (n : Nat) (hn : 1 ≤ n) (Bp Bt : Nat) (t : Int)
    (A : Option Addr) (m c : Nat) (l : List C) (hl : l.length = m) (hm : m ≤ 1000) (X : Nat → Prop) (X1 : X Bp) (X2 : X Bt) (X3 : 0 < l.length → ∀ a, A = some a → X a.block) (w : World) (hX : ∀ b, X b → b < w.heap.size)
    (hBp : w.cell? ⟨Bp, 0, none⟩ = some (.slice A m c)) (hBt : w.cell? ⟨Bt, 0, none⟩ = some (.int .i64 t)) (hrd : KC.Rd w A l) :
    SeqStopsK F n Try.prog 60 #[.pointer (some ⟨Bp, 0, none⟩), .pointer (some ⟨Bt, 0, none⟩)] (fun i : Fin l.length => #[cv (l.getD i.val c0)]) (KX X) (fun ys => ys = tiL t l) (fun pre => pre <+: tiL t l) (tiL t l).length w := fun lp J Jx W hW hJ _ hY h0 =>
  calls1_in F n (hF _) hro hn lp Bp Bt t A m c l hl hm X X1 X2 X3 J Jx (fun pre W o h => hJ pre W _ none h (World.grownBy_alloc W o none) (fun r e => by cases e)) hY W (fun b hb => Nat.lt_of_lt_of_le (hX b hb) hW.size) ((hW.cell (p := ⟨Bp, 0, none⟩) (hX _ X1)).trans hBp) ((hW.cell (p := ⟨Bt, 0, none⟩) (hX _ X2)).trans hBt) (hrd.below hW) h0
theorem bk_own {β : Type} (b : Nat) (x : C) : Own (fun (_ : β) W => W.heap[b]? = some (.cells (KC.enc x).toArray 47 (0, 0))) := cells_own b _ rfl
theorem blk_at {W : World} {b : Nat} {x : C} (h : W.heap[b]? = some (.cells (KC.enc x).toArray 47 (0, 0))) : KC.At W b 0 x := fun j u hj => by
  simp only [World.cell?, h, Nat.zero_add]
  simpa using hj
theorem Kd.appIn {α : Type} (K : Kd α) {F : Fence} {nF : Nat} {ops : Array Oper} {rest : List Oper} {o : Oper} {a : Act} {Q : Exit → Act → World → Prop} (hgd : o.guard = none) (s x : Operand)
    (ho : o.op = .call { callee := .builtin .append, args := #[s, x], argTypes := #[K.S, K.S] }) (W : World) (base : Nat) (v : Value) (ys : List α) (y : α) (cs : Array Value) (hcs : cs.toList = K.enc y)
    (hs : a.eval s = v) (hx : a.eval x = .slice (some ⟨W.heap.size, 0, none⟩) 1 1) (hown : W.ownsRow base K.E K.sz v ys.length (K.flat ys)) (hn : ys.length ≤ 100000) (hb : base ≤ W.heap.size)
    (h : ∀ v' w', w'.ownsRow base K.E K.sz v' (ys.length + 1) (K.flat (ys ++ [y])) → (W.alloc (.cells cs K.E)).grownBy w' v.ownBlock → wpListIn F nF Try.prog ops Q rest (a.put o.dst v') w') :
    wpListIn F nF Try.prog ops Q (o :: rest) a (W.alloc (.cells cs K.E)) := by
  obtain ⟨i0, z, hi, hz0, hzs, hz1, hz2⟩ := K.info
  have hbt := K.bpos
  have hbytes : (ys.length + 1) * K.bt ≤ 140737488355328 := by
    have : (ys.length + 1) * K.bt ≤ 100001 * 256 := Nat.mul_le_mul (by omega) hbt
    omega
  refine wpListIn_append_own_at _ hgd s x K.S ho base K.E i0 z K.sz K.bt K.und hi hz0 hz1 hz2 hzs K.pos v ys.length (K.flat ys) hs (hown.alloc _) ⟨W.heap.size, 0, none⟩ 1 1 (K.enc y) hx (by rw [K.len, Nat.one_mul]) ?_ (K.one y) (by unfold maxLen; omega) hbytes (by rw [World.size_alloc]; omega) ?_
  · intro j u hj
    rw [addr_lit]
    exact K.at_new W y cs hcs j u hj
  · intro v' w' h1 h2 _ _
    rw [show K.flat ys ++ K.enc y = K.flat (ys ++ [y]) by rw [K.flat_append, K.flat_one]] at h1
    exact h v' w' h1 h2
/-- an append onto a row that a box below its base holds, stored back into the box -/
theorem box_app {W w1 : World} {n₀ B : Nat} {t e : TypeId} {size : Nat} {v v' : Value} {k m : Nat} {xs ys : List Value} {tmp : Obj}
    (hv : Boxed W B t v) (hrow : W.ownsRow n₀ e size v k xs) (hn₀ : n₀ ≤ W.heap.size) (hB : B < n₀)
    (hown' : w1.ownsRow n₀ e size v' m ys) (hgrow : (W.alloc tmp).grownBy w1 v.ownBlock) :
    Boxed w1 B t v ∧ Boxed (w1.setCell ⟨B, 0, none⟩ v') B t v' ∧ (w1.setCell ⟨B, 0, none⟩ v').ownsRow n₀ e size v' m ys ∧ KeepsOthers W (w1.setCell ⟨B, 0, none⟩ v') ∧ (∀ b, b < n₀ → b ≠ B → (w1.setCell ⟨B, 0, none⟩ v').heap[b]? = W.heap[b]?) ∧ Below B W (w1.setCell ⟨B, 0, none⟩ v') := by
  have hne : ∀ b, b < n₀ → some b ≠ v.ownBlock := fun b hb e => by have := (hrow.lt b e.symm).1; omega
  have hblk : ∀ b, b < n₀ → w1.heap[b]? = W.heap[b]? := fun b hb => (hgrow.block b (by rw [World.size_alloc]; omega) (hne b hb)).trans ((MapKept.heap_alloc W tmp).2 b (by omega))
  have hv1 : Boxed w1 B t v := (hblk B hB).trans hv
  refine ⟨hv1, hv1.set v', hown'.kept (grownBy_setCell' w1 B v') (.inr fun e => by have := (hown'.lt B e).1; omega), ?_, fun b hb h => (Below.heap_setCell w1 ⟨B, 0, none⟩ v' b h).trans (hblk b hb), ?_⟩
  · refine ((KeepsOthers.alloc W tmp).trans (KeepsOthers.of_grownBy hgrow fun j o ej hj => ?_)).trans (KeepsOthers.setCell _ _ _)
    rcases (hrow.alloc tmp).2 with ⟨rfl, _⟩ | ⟨g, cap, cur, rfl, _, hgb, _⟩
    · simp [Value.ownBlock] at ej
    · obtain rfl : g = j := by simpa [Value.ownBlock] using ej
      rw [hgb] at hj; cases hj; rfl
  · refine (((Below.refl B W).alloc (by omega) tmp).grown hgrow (by simp; omega) fun j ej => ?_).setCell (p := ⟨B, 0, none⟩) (Nat.le_refl _) v'
    have := (hrow.lt j ej).1
    omega
set_option maxRecDepth 100000 in
set_option maxHeartbeats 2000000 in
theorem of_in (F : Fence) (hF : ∀ f, F.fn f) (hro : F.round = none) (n : Nat) (hn : 3 ≤ n) (t : Int) (A : Option Addr) (m c : Nat) (l : List C) (w : World) (hl : l.length = m) (hm : m ≤ 1000) (hrd : KC.Rd w A l) :
    CallsIn F n Try.prog 13 #[.int .i64 t, .slice A m c] w (RoPost KC (ofT t l) w) := by
  have h1 : 1 ≤ n := by omega
  obtain ⟨W0, hW0⟩ : ∃ W0 : World, W0 = ((w.alloc (.cells #[.slice none 0 0] 22)).alloc (.cells #[.int .i64 t] 3)).alloc (.cells #[.slice A m c] 22) := ⟨_, rfl⟩
  have hsz : w.heap.size + 3 ≤ W0.heap.size := by rw [hW0]; simp
  have hB0 : Below w.heap.size w W0 := by rw [hW0]; exact bel_alloc (bel_alloc (bel_alloc (Below.refl _ _) _) _) _
  have bO : Boxed W0 w.heap.size 22 (.slice none 0 0) := by rw [hW0]; exact ((Boxed.new w _ _).alloc _).alloc _
  have bT : Boxed W0 (w.heap.size + 1) 3 (.int .i64 t) := by
    rw [hW0]
    have := (Boxed.new (w.alloc (.cells #[.slice none 0 0] 22)) 3 (.int .i64 t)).alloc (.cells #[.slice A m c] 22)
    rwa [World.size_alloc] at this
  have bS : Boxed W0 (w.heap.size + 2) 22 (.slice A m c) := by
    rw [hW0]
    have := Boxed.new ((w.alloc (.cells #[.slice none 0 0] 22)).alloc (.cells #[.int .i64 t] 3)) 22 (.slice A m c)
    rwa [World.size_alloc, World.size_alloc] at this
  have hlt : 0 < l.length → ∀ a, A = some a → a.block < w.heap.size := fun h a e => by
    obtain ⟨b, o, e', q⟩ := hrd 0 _ (List.getElem?_eq_getElem h)
    rw [e] at e'; injection e' with e'; subst e'
    exact q.lt
  obtain ⟨X, hXd⟩ : ∃ X : Nat → Prop, X = fun b => b = w.heap.size + 1 ∨ b = w.heap.size + 2 ∨ b < w.heap.size := ⟨_, rfl⟩
  have hX : ∀ b, X b → b < W0.heap.size := fun b hb => by rw [hXd] at hb; have hb : b = w.heap.size + 1 ∨ b = w.heap.size + 2 ∨ b < w.heap.size := hb; omega
  have HS := Lib.hid (calls_stops F hF hro (n - 1) (by omega) (w.heap.size + 1 + 1) (w.heap.size + 1) t A m c l hl hm X (by rw [hXd]; exact .inr (.inl rfl)) (by rw [hXd]; exact .inl rfl) (fun h a e => by rw [hXd]; exact .inr (.inr (hlt h a e))) W0 hX bS.cell bT.cell (hrd.below hB0))
  have hXk : ∀ (W W' : World), (∀ b, b < W0.heap.size → b ≠ w.heap.size → W'.heap[b]? = W.heap[b]?) → KX X W W' := fun W W' h b hb => by
    rw [hXd] at hb
    have hb : b = w.heap.size + 1 ∨ b = w.heap.size + 2 ∨ b < w.heap.size := hb
    exact h b (by omega) (by omega)
  have HXK := Lib.hid hXk
  have HL := Lib.hid hl
  have hne : ∀ i : Fin l.length, i.val < 1000 := fun i => by have := i.isLt; omega
  clear hl hrd bT bS hlt hXk hXd
  refine callsIn_of_wp_marks Try.func13 rfl (hF _) ?_ hro
  simp only [Try.ntmps13, List.size_toArray, List.length_cons, List.length_nil, Nat.reduceAdd, Nat.reduceSub, Array.replicate_succ, Array.replicate_zero, List.push_toArray, List.append_toArray, List.nil_append, List.cons_append]
  gi_wp2_with (gi_at_call 36; refine (callsOf_in F (n - 1) (hF _) hro t A m c _).mono ?_; rintro e w' ⟨rfl, rfl⟩)
  rw [← hW0]
  clear hW0
  refine wpIn_rangeFunc_ownH hro h1 (gf := 60) (lb := #[.pointer (some ⟨w.heap.size + 1 + 1, 0, none⟩), .pointer (some ⟨w.heap.size + 1, 0, none⟩)]) rfl (hF _) (enters_of Try.func60 (by kernel_rfl) rfl)
    HS.out KX.trans (KX.put hX) (Below.refl _ _) (fun _ => rfl)
    (fun pre W => (∃ v, Boxed W w.heap.size 22 v ∧ W.ownsRow W0.heap.size KC.E KC.sz v (tiC pre).length (KC.flat (tiC pre)) ∧ True) ∧ Below w.heap.size w W ∧ W0.heap.size ≤ W.heap.size)
    (fun _ _ _ => False)
    (OwnFrom.and (Own.from (holdsRow_own W0.heap.size w.heap.size 22 KC.E KC.sz (fun pre => (tiC pre).length) (fun pre => KC.flat (tiC pre)) (fun pre v => True)) _) (OwnFrom.and (ownFrom_below (Nat.le_refl _) (by omega)) (fun s X Y row h hg hr => Nat.le_trans h hg.size)))
    (fun cc => fun _ _ _ _ hs _ _ => hs)
    ⟨⟨_, bO, World.ownsRow_nil _ _ _ _, trivial⟩, hB0, Nat.le_refl _⟩
    (fun i a' W => ∃ b, W0.heap.size ≤ b ∧ W.heap[b]? = some (.cells (KC.enc (l.getD i.val c0)).toArray 47 (0, 0)) ∧ a' = { tmps := #[.int .i64 t, .slice A m c, undef, undef, .slice none 0 0, .pointer (some ⟨w.heap.size, 0, none⟩), .pointer (some ⟨b, 0, none⟩), .int .i64 t, .slice A m c, .func (.func 60) #[] #[.pointer (some ⟨w.heap.size + 1 + 1, 0, none⟩), .pointer (some ⟨w.heap.size + 1, 0, none⟩)], cv (l.getD i.val c0), undef, undef, undef, undef, undef], defers := [] })
    (fun i a' => fun s X Y row hs hg hrow => by obtain ⟨b, g1, g2, g3⟩ := hs; exact ⟨b, g1, (Own.from (bk_own b (l.getD i.val c0)) _) s X Y row g2 hg hrow, g3⟩)
    ?assign ?body ?done ?stop
  case assign =>
    rintro lp pre i W K ⟨⟨v, hv, hrow, _⟩, hbel, hsW⟩ hK
    have HK := Lib.hid (hK { tmps := #[.int .i64 t, .slice A m c, undef, undef, .slice none 0 0, .pointer (some ⟨w.heap.size, 0, none⟩), .pointer (some ⟨W.heap.size, 0, none⟩), .int .i64 t, .slice A m c, .func (.func 60) #[] #[.pointer (some ⟨w.heap.size + 1 + 1, 0, none⟩), .pointer (some ⟨w.heap.size + 1, 0, none⟩)], cv (l.getD i.val c0), undef, undef, undef, undef, undef], defers := [] } (W.alloc (.cells (KC.enc (l.getD i.val c0)).toArray 47)) ((KeepsOthers.alloc _ _).from _)
      (fun q hq => (MapKept.heap_alloc W _).2 q (by have := hX q hq; omega))
      ⟨⟨v, hv.alloc _, hrow.alloc _, trivial⟩, bel_alloc hbel _, by rw [World.size_alloc]; omega⟩ ⟨W.heap.size, hsW, (MapKept.heap_alloc W _).1, rfl⟩)
    clear hK hv hrow hbel
    simp only [cv, KC] at HK ⊢
    generalize l.getD i.val c0 = x at *
    gi_wp2_with (refine stIn_new rfl (.tmp 6) (.tmp 10) rfl W _ rfl rfl rfl x rfl ?_)
    exact HK.out
  case body =>
    rintro lp pre i a' W _ _ ⟨⟨v, hv, hrow, _⟩, hbel, hsW⟩ ⟨b, hbb, hbk, rfl⟩ hlt
    have hLl : (tiC pre).length ≤ 100000 := by
      unfold tiC
      rw [List.length_map]
      have := tiL_len t l
      have := HL.out
      omega
    have HSN := Lib.hid (tiC_snoc pre i)
    have AT := Lib.hid (blk_at hbk)
    obtain ⟨x, hx⟩ : ∃ x, l.getD i.val c0 = x := ⟨_, rfl⟩
    rw [hx] at AT HSN
    rw [hx]
    clear hx hbk
    obtain ⟨L, hL⟩ : ∃ L, tiC pre = L := ⟨_, rfl⟩
    rw [hL] at hrow hLl HSN
    clear hL
    have hcr := hv.cell
    have hV := Lib.hid hv
    have hR := Lib.hid hrow
    clear hrow
    gi_wp2_with (first | (refine ldIn rfl (.tmp 6) rfl _ _ rfl x AT.out ?_) | (gi_at_builtin; refine KC.appIn rfl (.tmp 11) (.tmp 13) rfl W W0.heap.size v L x #[.int .i64 x.t, .int .i64 x.i, .int .u8 x.k, .int .u64 x.p0, .int .u64 x.p1, .int .u64 x.p2, .int .u64 x.p3, .int .u64 x.p4, .int .u64 x.p5, .int .i64 x.v, .int .i64 x.u, .int .i64 x.a, .int .i64 x.s, .int .i64 x.re, .bool x.rf, .int .u64 x.rk, .int .u64 x.rv, .int .i64 x.rc] rfl rfl rfl hR.out hLl hsW ?_; intro v' w1 hown' hgrow; obtain ⟨g', cap', rfl⟩ := ownsRow_succ hown'; obtain ⟨hv1, hv2, hr2, hk2, hx2, hb2⟩ := box_app hV.out hR.out hsW (by omega) hown' hgrow; have hc1 := hv1.cell; have hf1 := hv1.frozen))
    exact ⟨hk2.from _, HXK.out _ _ (fun b hb hn => hx2 b hb hn), ⟨_, hv2, by rw [HSN.out, List.length_append]; exact hr2, trivial⟩, hbel.trans hb2, by have := hk2.size; omega⟩
  case stop =>
    rintro D c pre W _ _ h _
    exact h.elim
  case done =>
    rintro D ys W hD rfl ⟨⟨v, hv, hrow, _⟩, hbel, hsW⟩ hK
    rw [tiL_of] at hrow
    have hcr := hv.cell
    have HP := Lib.hid (show True ∧ (W.putObj D (.deferred none)).ownsRow w.heap.size KC.E KC.sz v (ofT t l).length (KC.flat (ofT t l)) ∧ Below w.heap.size w (W.putObj D (.deferred none)) from ⟨trivial, row_base (ownsRow_putObj hrow _ hK rfl) (by omega), hbel.trans (belowK_b (w := w) (Nat.le_refl _) W D _ _ (by omega) hK rfl rfl)⟩)
    clear hrow hv hbel
    gi_wp2
    refine ⟨by simp, .inl ⟨_, _, rfl, run_takeDeferred hK, ?_⟩⟩
    exact ⟨_, results_tmp rfl _ _ _, ⟨v, rfl, HP.out.2.1, HP.out.2.2⟩⟩
theorem of_any (t : Int) (A : Option Addr) (m c : Nat) (l : List C) (w : World) (hl : l.length = m) (hm : m ≤ 1000) (hrd : KC.Rd w A l) :
    Calls Try.prog 13 #[.int .i64 t, .slice A m c] w (RoPost KC (ofT t l) w) :=
  (callsIn_wide (n := 3)).1 (of_in Fence.wide (fun _ => trivial) rfl 3 (Nat.le_refl _) t A m c l w hl hm hrd)
end Hi
end Go.Proofs.Ytgfhfcjjodcgdaa
