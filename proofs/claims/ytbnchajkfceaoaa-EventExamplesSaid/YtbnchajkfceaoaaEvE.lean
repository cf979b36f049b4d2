/- Package event: collect at sections and at waits: contracts of the translated code. Conditions: those of each lemma. Written by tools/mk11col.py. -/
import Derived.Test.YtbnchajkfceaoaaEvD
import Derived.Maps.OwnIn
namespace Go.Proofs.Ytbnchajkfceaoaa
open Go.RowKit Go.Shelf Go.Sort
set_option linter.unusedVariables false
set_option linter.unusedSimpArgs false
attribute [local go_sem] Oper.semAt_some
namespace Ev
section
variable {F : Fence} {n : Nat} {P : Program} {md : Region.Mode} {ops : Array Oper} {Q : Exit → Act → World → Prop}
/-- a region in any order, by what holds after each set of operations -/
theorem any_inv (I : Nat → Array Bool → Act → World → Prop)
    (h0 : ∀ fuel listed a w, I fuel listed a w → Region.ready md ops listed = [] → Q .normal a w)
    (hz : ∀ listed a w, I 0 listed a w → Region.ready md ops listed = [])
    (hs : ∀ fuel listed a w, I (fuel + 1) listed a w → ∀ i ∈ Region.ready md ops listed, wpOpIn F n P ops Q i (I fuel (listed.setIfInBounds i true)) a w) :
    ∀ (fuel : Nat) (listed : Array Bool) (a : Act) (w : World), I fuel listed a w → wpAnyIn F n P md ops Q fuel listed a w
  | 0, listed, a, w, h => ⟨hz _ _ _ h, h0 _ _ _ _ h (hz _ _ _ h)⟩
  | fuel + 1, listed, a, w, h => ⟨h0 _ _ _ _ h, fun i hi => wpOpIn_mono (fun a w h => any_inv I h0 hz hs fuel _ a w h) (hs _ _ _ _ h i hi)⟩
end
def gB (l0 l1 l2 l3 l4 l5 l6 l7 l8 l9 l10 : Bool) : Bool := (!l4 || l3) && ((!l5 || l4) && ((!l6 || l5) && ((!l7 || (l1 && (l2 && l6))) && ((!l8 || l7) && ((!l9 || (l0 && l8)) && (!l10 || l9))))))
variable {α : Type}
/-- an append as one step of a region in a fence -/
theorem Kd.stepX (K : Kd α) {F : Fence} {nF : Nat} {ops : Array Oper} {o : Oper} {a : Act} {w : World} {C : Act → World → Prop} {Q : Exit → Act → World → Prop} {R : Prop} (hgd : o.guard = none) (s x : Operand)
    (ho : o.op = .call { callee := .builtin .append, args := #[s, x], argTypes := #[K.S, K.S] }) (base : Nat) (v : Value) (ys : List α) (y : α) (cs : Array Value) (H : Nat) (hs : a.eval s = v) (hown : w.ownsRow base K.E K.sz v ys.length (K.flat ys))
    (hx : a.eval x = .slice (some ⟨H, 0, none⟩) 1 1) (hb : w.heap[H]? = some (.cells cs K.E (0, 0))) (hcs : cs.toList = K.enc y) (hn : ys.length ≤ 50000) (hbase : base ≤ w.heap.size)
    (h : ∀ v' w', w'.ownsRow base K.E K.sz v' (ys ++ [y]).length (K.flat (ys ++ [y])) → w.grownBy w' v.ownBlock → C (a.put o.dst v') w') :
    if Region.wanted o (yielded ops a.tmps) = true then Oper.wpIn F nF Try.prog o a w C Q else R := by
  have hw : Region.wanted o (yielded ops a.tmps) = true := by simp [Region.wanted, hgd]
  rw [if_pos hw]
  obtain ⟨i0, z, hi, hz0, hzs, hz1, hz2⟩ := K.info
  have hbt := K.bpos
  have hbytes : (ys.length + 1) * K.bt ≤ 140737488355328 := by
    have : (ys.length + 1) * K.bt ≤ 50001 * 64 := Nat.mul_le_mul (by omega) hbt
    omega
  obtain ⟨v', w', hr, h2, h3, _⟩ := run_append_own (P := Try.prog) w base K.S o.type K.E i0 z K.sz K.bt K.und hi hz0 hz1 hz2 hzs K.pos v ys.length (K.flat ys) hown ⟨H, 0, none⟩ 1 1 (K.enc y) (by rw [K.len, Nat.one_mul]) (by rw [← hcs]; exact World.news_of_block hb) (K.one y) (by unfold maxLen; omega) hbytes hbase
  rw [show K.flat ys ++ K.enc y = K.flat (ys ++ [y]) by rw [K.flat_append, K.flat_one]] at h2
  unfold Oper.wpIn
  refine ⟨by simp [Oper.about, ho, resolve, Target.leads, Sem.run_pure], ?_⟩
  rw [Oper.semAt_plain F _ _ (by rw [ho]; intro c hc'; cases hc')]
  simp [execOp, ho, resolve, invoke, builtin, hs, hx, hr, Result.andThen]
  exact h _ _ (by rw [List.length_append]; exact h2) h3
/-- what an append onto a boxed row leaves, behind the store into the box -/
structure FnP (K : Kd α) (V : World) (Bo base : Nat) (zs : List α) (v : Value) (w : World) : Prop where
  keeps : ∀ B, KeepsFrom B V w
  row : ∃ v', Boxed w Bo K.S v' ∧ w.ownsRow base K.E K.sz v' zs.length (K.flat zs)
  blk : ∀ k, k < V.heap.size → k ≠ Bo → v.ownBlock ≠ some k → w.heap[k]? = V.heap[k]?
  bel : ∀ N, N ≤ Bo → N ≤ base → Below N V w
theorem app_fin (K : Kd α) {V w1 w2 : World} {Bo base n m : Nat} {v v' : Value} {xs : List Value} {zs : List α} (hv : Boxed V Bo K.S v) (hrow : V.ownsRow base K.E K.sz v n xs) (bb : Below V.heap.size V w1) (hm : m = zs.length) (r1 : w2.ownsRow base K.E K.sz v' m (K.flat zs)) (r2 : w1.grownBy w2 v.ownBlock) (hbo : Bo < base) :
    Boxed w2 Bo K.S v ∧ FnP K V Bo base zs v (w2.setCell ⟨Bo, 0, none⟩ v') := by
  subst hm
  have blk : ∀ k, k < V.heap.size → v.ownBlock ≠ some k → w2.heap[k]? = V.heap[k]? := fun k hk hn => (r2.block k (Nat.lt_of_lt_of_le hk bb.size) (fun e => hn e.symm)).trans (bb.block k hk)
  have hne : v.ownBlock ≠ some Bo := fun e => by have := (hrow.lt Bo e).1; omega
  have hB : Boxed w2 Bo K.S v := (blk Bo hv.lt hne).trans hv
  have hsz : V.heap.size ≤ w2.heap.size := Nat.le_trans bb.size r2.size
  have bel : ∀ N, N ≤ Bo → Below N V w2 := fun N hN => ⟨r2.os.trans bb.os, r2.tape.trans bb.tape, r2.output.trans bb.output, hsz, fun k hk => blk k (Nat.lt_trans (Nat.lt_of_lt_of_le hk hN) hv.lt) (fun e => by have := (hrow.lt k e).1; omega)⟩
  refine ⟨hB, fun B => ⟨by simpa using hsz, fun k o _ hk ho => ?_⟩, ⟨v', hB.set _, ?_⟩, fun k hk h1 h2 => ?_, fun N hN _ => (bel N hN).setCell (p := ⟨Bo, 0, none⟩) hN _⟩
  · have hkV : k < V.heap.size := (Array.getElem?_eq_some_iff.1 hk).1
    have h1 : k ≠ Bo := fun e => by subst e; rw [show V.heap[k]? = _ from hv] at hk; cases hk; cases ho
    have h2 : v.ownBlock ≠ some k := fun e => by
      rcases hrow.2 with ⟨rfl, _⟩ | ⟨g, cap, cur, rfl, _, hgb, _⟩
      · cases e
      · have : g = k := by simpa [Value.ownBlock] using e
        subst this
        rw [hgb] at hk; cases hk; cases ho
    rw [Below.heap_setCell _ _ _ _ (by show k ≠ Bo; exact h1), blk k hkV h2]
    exact hk
  · exact K.own_keep r1 fun g hg => Below.heap_setCell _ _ _ _ (by have := (r1.lt g hg).1; show g ≠ Bo; omega)
  · rw [Below.heap_setCell _ _ _ _ (by show k ≠ Bo; exact h1)]
    exact blk k hk h2
theorem row_slice {w : World} {base n : Nat} {T : TypeId} {sz : Nat} {v : Value} {xs : List Value} (h : w.ownsRow base T sz v n xs) : ∃ A m c, v = .slice A m c := by
  rcases h.2 with ⟨rfl, _⟩ | ⟨g, cap, cur, rfl, _⟩
  · exact ⟨_, _, _, rfl⟩
  · exact ⟨_, _, _, rfl⟩
theorem bk_own {β : Type} (b : Nat) (x : E) : Own (fun (_ : β) W => Bk W b x) := fun s X Y row hs hg hrow =>
  (hg.block b hs.lt (fun e' => by obtain ⟨o, ho, hc⟩ := hrow b e'.symm; rw [show X.heap[b]? = _ from hs] at ho; cases ho; cases hc)).trans hs
theorem not_row (K : Kd α) {w : World} {base n b : Nat} {v : Value} {xs : List Value} {x : E} (hE : K.E ≠ 57) (h : w.ownsRow base K.E K.sz v n xs) (hb : Bk w b x) : v.ownBlock ≠ some b := fun e => by
  rcases h.2 with ⟨rfl, _⟩ | ⟨g, cap, cur, rfl, _, hgb, _⟩
  · cases e
  · have : g = b := by simpa [Value.ownBlock] using e
    subst this
    rw [show w.heap[g]? = _ from hb] at hgb
    injection hgb with hgb
    injection hgb with _ h2 _
    exact hE h2.symm
set_option maxRecDepth 100000 in
set_option maxHeartbeats 4000000 in
theorem collectS_in (F : Fence) (hF : ∀ f, F.fn f) (hro : F.round = none) (hwide : ∀ {n g : Nat} {args : Array Value} {w : World} {R : Ending → World → Prop}, Calls Try.prog g args w R → CallsIn F n Try.prog g args w R)
    (n : Nat) (hn : 5 ≤ n) (kk : Int) (A : Option Addr) (m c : Nat) (xs : List E) (hl : xs.length = m) (hm : m ≤ 1000)
    (hb : ∀ e ∈ xs, 0 ≤ e.t ∧ e.t < 64) (w : World) (hrd : KE.Rd w A xs) :
    CallsIn F n Try.prog 48 #[.slice A m c, .int .u8 kk, .func (.func 49) #[] #[]] w fun e W' => ∃ v, e = .returned v ∧ W'.ownsRow w.heap.size KS.E KS.sz v (ivs kk xs).length (KS.flat (ivs kk xs)) ∧ Below w.heap.size w W' := by
  have h1 : 1 ≤ n := by omega
  have hf1 := hF 52
  have hf2 := hF 53
  obtain ⟨fnv, hfnv⟩ : ∃ fnv : Value, fnv = .func (.func 49) #[] #[] := ⟨_, rfl⟩
  have HL := Lib.hid hl
  have HR := Lib.hid hrd
  have HBD := Lib.hid hb
  have hXl := Lib.hid (rdE_lt hrd)
  clear hl hrd hb
  refine callsIn_of_wp_marks Try.func48 rfl (hF _) ?_ hro
  simp only [Try.ntmps48, List.size_toArray, List.length_cons, List.length_nil, Nat.reduceAdd, Nat.reduceSub, Array.replicate_succ, Array.replicate_zero, List.push_toArray, List.append_toArray, List.nil_append, List.cons_append]
  gi_wp2
  gi_loopw [8, 12] (fun a i wr => ∃ k : Nat, k ≤ 64 ∧ i = .int .i64 k ∧ ArI wr (w.heap.size + 2) (fun t => if t < k then -1 else 0) ∧ wr.heap[w.heap.size]? = some (.cells #[.int .u8 kk] 5) ∧ wr.heap[w.heap.size + 1]? = some (.cells #[.func (.func 49) #[] #[]] 80) ∧ Below w.heap.size w wr ∧ wr.heap.size = w.heap.size + 3)
    (fun a i _ => 64 - (intOf i).toNat)
  case atStart =>
    refine ⟨0, by omega, rfl, ?_, ?_, ?_, bel_alloc (bel_alloc (bel_alloc (Below.refl _ _) _) _) _, by simp⟩
    · have h := ArI.new ((w.alloc (.cells #[.int .u8 kk] 5)).alloc (.cells #[.func (.func 49) #[] #[]] 80))
      rw [World.size_alloc, World.size_alloc] at h
      exact h.ext (fun q hq => by rw [if_neg (by omega)])
    · rw [(MapKept.heap_alloc _ _).2 _ (by simp; omega), (MapKept.heap_alloc _ _).2 _ (by simp)]
      exact (MapKept.heap_alloc _ _).1
    · have h := (MapKept.heap_alloc (w.alloc (.cells #[.int .u8 kk] 5)) (.cells #[.func (.func 49) #[] #[]] 80)).1
      rw [World.size_alloc] at h
      rw [(MapKept.heap_alloc _ _).2 _ (by simp)]
      exact h
  case round =>
    obtain ⟨k, hk, rfl, har, hk0, hk1, hbel, hsz⟩ := hrel
    by_cases hlt : k < 64
    · have d0 : decide ((k : Int) < 64) = true := decide_eq_true (by omega)
      have k1 : (k : Int) < 64 := by omega
      have hc := har.cell hlt
      have hf := har.frozen k
      have FIN := Lib.hid ((har.set hlt (-1)).ext (g := fun t => if t < k + 1 then -1 else 0) (fun q hq => by
        by_cases e : q = k
        · subst e; rw [if_pos rfl, if_pos (by omega)]
        · by_cases e2 : q < k
          · rw [if_neg e, if_pos e2, if_pos (by omega)]
          · rw [if_neg e, if_neg e2, if_neg (by omega)]))
      have HK0 := Lib.hid hk0
      have HK1 := Lib.hid hk1
      clear har hk0 hk1
      gi_wp2
      go_roundw
      case rel => exact ⟨k + 1, by omega, by go_num, FIN.out, (other (by omega)).trans HK0.out, (other (by omega)).trans HK1.out, hbel.setCell (p := ⟨w.heap.size + 1 + 1, k, none⟩) (by show w.heap.size ≤ w.heap.size + 1 + 1; omega) _, by simpa using hsz⟩
      case measure => simp [intOf]; omega
    · obtain rfl : k = 64 := by omega
      have d0 : decide ((64 : Int) < 64) = false := by decide
      obtain ⟨V0, rfl⟩ : ∃ V0 : World, V0 = wr := ⟨_, rfl⟩
      have hAR := har.ext (g := fun t => -1) (fun q hq => by rw [if_pos hq])
      have HK0 := Lib.hid hk0
      have HK1 := Lib.hid hk1
      have HA := Lib.hid hAR
      have HB0 := Lib.hid hbel
      have SZ := Lib.hid hsz
      clear har hAR hk0 hk1 hbel hsz
      gi_wp2_with (gi_at_call 52; refine (backward_in F (n - 1) hf1 hro A m c _).mono ?_; rintro e w' ⟨rfl, rfl⟩)
      obtain ⟨V1, hV1⟩ : ∃ V1 : World, V1 = (V0.alloc (.cells #[.slice none 0 0] 28)).alloc (.cells #[.slice A m c] 22) := ⟨_, rfl⟩
      have sz1a : V1.heap.size ≤ V0.heap.size + 2 := by rw [hV1]; simp
      have sz1b : V0.heap.size + 2 ≤ V1.heap.size := by rw [hV1]; simp
      have hB01 : Below V0.heap.size V0 V1 := by rw [hV1]; exact bel_alloc (bel_alloc (Below.refl _ _) _) _
      have hB1 : Below w.heap.size w V1 := HB0.out.trans (hB01.mono HB0.out.size)
      have bO : Boxed V1 V0.heap.size 28 (.slice none 0 0) := by rw [hV1]; exact (Boxed.new V0 _ _).alloc _
      have bS : Boxed V1 (V0.heap.size + 1) 22 (.slice A m c) := by
        rw [hV1]
        have := Boxed.new (V0.alloc (.cells #[.slice none 0 0] 28)) 22 (.slice A m c)
        rwa [World.size_alloc] at this
      have sz0a : V0.heap.size ≤ w.heap.size + 3 := Nat.le_of_eq SZ.out
      have sz0b : w.heap.size + 3 ≤ V0.heap.size := Nat.le_of_eq SZ.out.symm
      have HA1 := Lib.hid (HA.out.same (hB01.block _ HA.out.lt))
      have b0 : Boxed V1 w.heap.size 5 (.int .u8 kk) := (hB01.block _ (by omega)).trans HK0.out
      have b1 : Boxed V1 (w.heap.size + 1) 80 (.func (.func 49) #[] #[]) := (hB01.block _ (by omega)).trans HK1.out
      have hX : ∀ b, (fun b => b = V0.heap.size + 1 ∨ b < w.heap.size) b → b < V1.heap.size := fun b hb => by
        have hb : b = V0.heap.size + 1 ∨ b < w.heap.size := hb
        omega
      have HS := Lib.hid (backward_stops F hF hro (n - 1) (by omega) (V0.heap.size + 1) A m c xs HL.out hm (fun b => b = V0.heap.size + 1 ∨ b < w.heap.size) (.inl rfl) (fun h a e => .inr (hXl.out h a e)) V1 hX bS.cell (HR.out.below hB1))
      obtain ⟨z8, rfl⟩ : ∃ z, z = u8 := ⟨_, rfl⟩
      obtain ⟨z14, rfl⟩ : ∃ z, z = u14 := ⟨_, rfl⟩
      obtain ⟨z15, rfl⟩ : ∃ z, z = u15 := ⟨_, rfl⟩
      obtain ⟨z16, rfl⟩ : ∃ z, z = u16 := ⟨_, rfl⟩
      obtain ⟨z17, rfl⟩ : ∃ z, z = u17 := ⟨_, rfl⟩
      rw [← hV1]
      clear hV1
      refine wpIn_rangeFunc_ownH hro h1 (gf := 55) (lb := #[.pointer (some ⟨V0.heap.size + 1, 0, none⟩)]) rfl (hF _) (enters_of Try.func55 (by kernel_rfl) rfl)
        HS.out KX.trans (KX.put hX) (Below.refl _ _) (fun _ => rfl)
        (fun pre V => (∃ v, Boxed V V0.heap.size 28 v ∧ V.ownsRow (V0.heap.size + 2) KS.E KS.sz v (ivs kk (sf pre)).reverse.length (KS.flat (ivs kk (sf pre)).reverse) ∧ True) ∧ (ArI V (w.heap.size + 2) (fun t => nxt (t : Int) (sf pre)) ∧ (Boxed V w.heap.size 5 (.int .u8 kk) ∧ (Boxed V (w.heap.size + 1) 80 (.func (.func 49) #[] #[]) ∧ Below w.heap.size V1 V))))
        (fun _ _ _ => False)
        (OwnFrom.and (Own.from (holdsRow_own (V0.heap.size + 2) V0.heap.size 28 KS.E KS.sz (fun pre => (ivs kk (sf pre)).reverse.length) (fun pre => KS.flat (ivs kk (sf pre)).reverse) (fun pre v => True)) _) (OwnFrom.and (Own.from (arI_own (w.heap.size + 2) (fun pre t => nxt (t : Int) (sf pre))) _) (OwnFrom.and (Own.from (boxed_own _ _ _) _) (OwnFrom.and (Own.from (boxed_own _ _ _) _) (ownFrom_below (by omega) (by omega))))))
        (fun _ _ _ _ _ hs _ _ => hs)
        ⟨⟨_, bO, World.ownsRow_nil _ _ _ _, trivial⟩, HA1.out, b0, b1, Below.refl _ _⟩
        (fun x a' V => ∃ b, V1.heap.size ≤ b ∧ Bk V b (xs.getD x.val e0) ∧ a' = { tmps := #[.slice A m c, .int .u8 kk, .func (.func 49) #[] #[], undef, .pointer (some ⟨w.heap.size, 0, none⟩), .pointer (some ⟨w.heap.size + 1, 0, none⟩), .slice none 0 0, .pointer (some ⟨w.heap.size + 1 + 1, 0, none⟩), z8, .pointer (some ⟨V0.heap.size, 0, none⟩), undef, .pointer (some ⟨b, 0, none⟩), .int .i64 64, .bool false, z14, z15, z16, z17, .slice A m c, .func (.func 55) #[] #[.pointer (some ⟨V0.heap.size + 1, 0, none⟩)], .int .i64 (x.val : Nat), ev (xs.getD x.val e0), undef, undef, undef, undef, undef, undef, undef, undef, undef, undef, undef, undef, undef, undef, undef, undef, undef, undef, undef, undef, undef, undef], defers := [] })
        (fun x a' => fun s X Y row hs hg hrow => by obtain ⟨b, g1, g2, g3⟩ := hs; exact ⟨b, g1, (Own.from (bk_own b (xs.getD x.val e0)) _) s X Y row g2 hg hrow, g3⟩)
        ?assign ?body ?done ?stop
      case assign =>
        rintro l pre x W K ⟨⟨v, hv, hrow, _⟩, har, hb0, hb1, hbel⟩ hK
        have hsz := hbel.size
        have HK := Lib.hid (hK { tmps := #[.slice A m c, .int .u8 kk, .func (.func 49) #[] #[], undef, .pointer (some ⟨w.heap.size, 0, none⟩), .pointer (some ⟨w.heap.size + 1, 0, none⟩), .slice none 0 0, .pointer (some ⟨w.heap.size + 1 + 1, 0, none⟩), z8, .pointer (some ⟨V0.heap.size, 0, none⟩), undef, .pointer (some ⟨W.heap.size, 0, none⟩), .int .i64 64, .bool false, z14, z15, z16, z17, .slice A m c, .func (.func 55) #[] #[.pointer (some ⟨V0.heap.size + 1, 0, none⟩)], .int .i64 (x.val : Nat), ev (xs.getD x.val e0), undef, undef, undef, undef, undef, undef, undef, undef, undef, undef, undef, undef, undef, undef, undef, undef, undef, undef, undef, undef, undef, undef], defers := [] } (W.alloc (.cells #[.int .i64 (xs.getD x.val e0).s, .int .i64 (xs.getD x.val e0).t, .int .u8 (xs.getD x.val e0).k, .int .u64 (xs.getD x.val e0).v] 57)) ((KeepsOthers.alloc _ _).from _)
          (fun q hq => (MapKept.heap_alloc W _).2 q (by have := hX q hq; omega))
          ⟨⟨v, hv.alloc _, hrow.alloc _, trivial⟩, har.alloc _, hb0.alloc _, hb1.alloc _, hbel.alloc (by omega) _⟩ ⟨W.heap.size, hsz, Bk.new _ _, rfl⟩)
        clear hK hv hrow har hb0 hb1 hbel
        simp only [yA, ev] at HK ⊢
        generalize xs.getD x.val e0 = y at *
        gi_wp2
        exact HK.out
      case body =>
        rintro l pre x a' V hl ⟨r, hr⟩ ⟨⟨v, hv, hrow, _⟩, har, hb0, hb1, hbel⟩ ⟨b, hbb, hbk, rfl⟩ hlt
        have hsz := hbel.size
        have HSN := Lib.hid (sf_snoc pre x)
        have hxe := HBD.out (xs.getD x.val e0) (by rw [getD_get x.isLt]; exact List.getElem_mem x.isLt)
        have hLl : (ivs kk (sf pre)).reverse.length ≤ 50000 := by
          have h := ivs_len kk (sf pre)
          have h2 : (sf pre).length = pre.length := by simp [sf]
          rw [bwd_len] at hlt
          have := HL.out
          rw [List.length_reverse]
          omega
        obtain ⟨⟨ys, yt, yk, yv⟩, hy⟩ : ∃ y, xs.getD x.val e0 = y := ⟨_, rfl⟩
        rw [hy] at hbk HSN hxe
        simp only at hxe
        simp only [hy, ev]
        clear hy
        obtain ⟨T, rfl⟩ := Int.eq_ofNat_of_zero_le hxe.1
        have hT64 : T < 64 := by omega
        have q1 : (T : Int) < 64 := by omega
        have q0 : (0 : Int) ≤ (T : Int) := by omega
        have HNX := Lib.hid (show ∀ t : Nat, nxt (t : Int) (sf (pre ++ [x])) = if t = T then ys else nxt (t : Int) (sf pre) from fun t => by
          rw [HSN.out]
          by_cases e : t = T
          · subst e; simp [nxt]
          · rw [if_neg e]
            show (if (T : Int) = (t : Int) then ys else nxt (t : Int) (sf pre)) = _
            rw [if_neg (by omega)])
        have HIV := Lib.hid (show ivs kk (sf (pre ++ [x])) = if yk = kk then ⟨(T : Int), yv, ys, nxt (T : Int) (sf pre)⟩ :: ivs kk (sf pre) else ivs kk (sf pre) from by rw [HSN.out]; rfl)
        obtain ⟨z, hz⟩ : ∃ z, nxt (T : Int) (sf pre) = z := ⟨_, rfl⟩
        have HZ := Lib.hid hz
        rw [hz] at HIV
        clear hz HSN hxe
        obtain ⟨L, hL⟩ : ∃ L, (ivs kk (sf pre)).reverse = L := ⟨_, rfl⟩
        have HLL := Lib.hid hL
        rw [hL] at hrow hLl
        clear hL
        have HV := Lib.hid hv
        have HRW := Lib.hid hrow
        have HAR := Lib.hid har
        have HBK := Lib.hid hbk
        have HB0' := Lib.hid hb0
        have HB1' := Lib.hid hb1
        have HBE := Lib.hid hbel
        have hv3 := hv.lt
        have hv1 := hb1.lt
        have hc3 := hv.cell
        have hc1 := hb1.cell
        have hc0 := hb0.cell
        have hcT := har.cell hT64
        have hfT := har.frozen T
        have hXB2 : ¬ (fun b => b = V0.heap.size + 1 ∨ b < w.heap.size) (w.heap.size + 1 + 1) := fun h => by
          have h : w.heap.size + 1 + 1 = V0.heap.size + 1 ∨ w.heap.size + 1 + 1 < w.heap.size := h
          omega
        have hbe3 : w.heap.size ≤ V.heap.size := by omega
        obtain ⟨e0', e1', e2', e3'⟩ := hbk.c
        clear hv hrow har hb0 hb1 hbel
        have hmix : Try.prog.follows .mixedOrders = true := by kernel_rfl
        by_cases hk : yk = kk
        · have t0 : (yk == kk) = true := by simpa using hk
          rw [if_pos hk] at HIV
          obtain ⟨Z, hZ⟩ : ∃ Z : I, (⟨(T : Int), yv, ys, z⟩ : I) = Z := ⟨_, rfl⟩
          have HZS := Lib.hid (show (#[.int .i64 (T : Nat), .int .u64 yv, .int .i64 ys, .int .i64 z] : Array Value).toList = KS.enc Z from by rw [← hZ]; rfl)
          rw [hZ] at HIV
          have HREV := Lib.hid (show (ivs kk (sf (pre ++ [x]))).reverse = L ++ [Z] from by rw [HIV.out, List.reverse_cons, HLL.out])
          have HLN := Lib.hid (show (ivs kk (sf (pre ++ [x]))).length = (L ++ [Z]).length from by rw [← HREV.out, List.length_reverse])
          have CMD := fun (n : Nat) (W : World) => Lib.hid (show CallsIn (F.inRound l) n Try.prog 49 #[.agg #[.int .i64 ys, .int .i64 (T : Nat), .int .u8 yk, .int .u64 yv], .int .i64 z] W fun e w' => e = .returned (.agg #[.int .i64 (T : Nat), .int .u64 yv, .int .i64 ys, .int .i64 z]) ∧ Below W.heap.size W w' from hwide (n := n) (secF_any ys T yk yv z W))
          have n2 : 1 ≤ n - 1 - 1 := by omega
          have hf3 : (F.inRound l).fn 49 := hF _
          clear hk hZ hcT hfT e0' e1' e3'
          gi_wp2
          refine wpIn_region_any hmix ?_
          change wpAnyIn _ _ _ _ _ _ _ _ _ (World.drew _)
          refine any_inv (fun fuel listed a wv => ∃ (l0 l1 l2 l3 l4 l5 l6 l7 l8 l9 l10 : Bool) (u0 u1 u2 u3 u4 u5 u6 u7 u8 u9 : Value), listed = #[l0, l1, l2, l3, l4, l5, l6, l7, l8, l9, l10] ∧ fuel = (if l0 = true then 0 else 1) + (if l1 = true then 0 else 1) + (if l2 = true then 0 else 1) + (if l3 = true then 0 else 1) + (if l4 = true then 0 else 1) + (if l5 = true then 0 else 1) + (if l6 = true then 0 else 1) + (if l7 = true then 0 else 1) + (if l8 = true then 0 else 1) + (if l9 = true then 0 else 1) + (if l10 = true then 0 else 1) ∧ a = { tmps := #[.slice A m c, .int .u8 kk, .func (.func 49) #[] #[], undef, .pointer (some ⟨w.heap.size, 0, none⟩), .pointer (some ⟨w.heap.size + 1, 0, none⟩), .slice none 0 0, .pointer (some ⟨w.heap.size + 1 + 1, 0, none⟩), z8, .pointer (some ⟨V0.heap.size, 0, none⟩), undef, .pointer (some ⟨b, 0, none⟩), .int .i64 64, .bool false, z14, z15, z16, z17, .slice A m c, .func (.func 55) #[] #[.pointer (some ⟨V0.heap.size + 1, 0, none⟩)], .int .i64 (x.val : Nat), .agg #[.int .i64 ys, .int .i64 (T : Nat), .int .u8 yk, .int .u64 yv], .pointer (some ⟨b, 2, none⟩), .int .u8 yk, .int .u8 kk, .bool true, u0, u1, u2, u3, u4, u5, u6, u7, u8, u9, undef, undef, undef, undef, undef, undef, undef, undef], defers := [] } ∧ ((l0 = true → u0 = v) ∧ (l1 = true → u1 = .func (.func 49) #[] #[]) ∧ (l2 = true → u2 = .agg #[.int .i64 ys, .int .i64 (T : Nat), .int .u8 yk, .int .u64 yv]) ∧ (l3 = true → u3 = .pointer (some ⟨b, 1, none⟩)) ∧ (l4 = true → u4 = .int .i64 (T : Nat)) ∧ (l5 = true → u5 = .pointer (some ⟨w.heap.size + 1 + 1, T, none⟩)) ∧ (l6 = true → u6 = .int .i64 z) ∧ (l7 = true → u7 = .agg #[.int .i64 (T : Nat), .int .u64 yv, .int .i64 ys, .int .i64 z])) ∧ gB l0 l1 l2 l3 l4 l5 l6 l7 l8 l9 l10 = true ∧ ((l9 = false → Below V.heap.size V wv) ∧ (l8 = true → l9 = false → ∃ g, u8 = .slice (some ⟨g, 0, none⟩) 1 1 ∧ wv.heap[g]? = some (.cells #[.int .i64 (T : Nat), .int .u64 yv, .int .i64 ys, .int .i64 z] KS.E (0, 0)) ∧ V.heap.size ≤ g) ∧ (l9 = true → l10 = false → ∃ w1, Below V.heap.size V w1 ∧ wv.ownsRow (V0.heap.size + 2) KS.E KS.sz u9 (L ++ [Z]).length (KS.flat (L ++ [Z])) ∧ w1.grownBy wv v.ownBlock) ∧ (l10 = true → FnP KS V V0.heap.size (V0.heap.size + 2) (L ++ [Z]) v wv))) ?fin ?zer ?stp _ _ _ _ ?ini
          case ini => exact ⟨false, false, false, false, false, false, false, false, false, false, false, undef, undef, undef, undef, undef, undef, undef, undef, undef, undef, rfl, rfl, rfl, ⟨by simp, by simp, by simp, by simp, by simp, by simp, by simp, by simp⟩, rfl, fun _ => bel_draw (Below.refl _ _), by simp, by simp, by simp⟩
          case zer =>
            rintro listed a w ⟨l0, l1, l2, l3, l4, l5, l6, l7, l8, l9, l10, u0, u1, u2, u3, u4, u5, u6, u7, u8, u9, rfl, hc, -, -, hG, -, -, -, -⟩
            revert hc hG
            revert l0 l1 l2 l3 l4 l5 l6 l7 l8 l9 l10
            decide +kernel
          case fin =>
            rintro fuel listed a wv ⟨l0, l1, l2, l3, l4, l5, l6, l7, l8, l9, l10, u0, u1, u2, u3, u4, u5, u6, u7, u8, u9, rfl, hc, rfl, -, hG, -, -, -, hf10⟩ hr
            have hl10 : l10 = true := by
              clear hc hf10
              revert hG hr
              revert l0 l1 l2 l3 l4 l5 l6 l7 l8 l9 l10
              decide +kernel
            have HFP := Lib.hid (hf10 hl10)
            clear hc hf10 hl10 hr hG
            obtain ⟨fk, ⟨v', fb, fr⟩, fblk, fbel⟩ := HFP.out
            have own : ∀ q, q < V0.heap.size + 2 → v.ownBlock ≠ some q := fun q hq e => by have := (HRW.out.lt _ e).1; omega
            have har' := HAR.out.same (fblk _ HAR.out.lt (by omega) (own _ (by omega)))
            have hbk' := HBK.out.same (fblk b HBK.out.lt (by omega) (not_row KS (by decide) HRW.out HBK.out))
            have hb0' : Boxed wv w.heap.size 5 (.int .u8 kk) := (fblk _ HB0'.out.lt (by omega) (own _ (by omega))).trans HB0'.out
            have hb1' : Boxed wv (w.heap.size + 1) 80 (.func (.func 49) #[] #[]) := (fblk _ HB1'.out.lt (by omega) (own _ (by omega))).trans HB1'.out
            obtain ⟨y0, y1, y2, y3⟩ := hbk'.c
            have cT := har'.cell hT64
            have fT := har'.frozen T
            have FB := Lib.hid fb
            have FR := Lib.hid fr
            have FA := Lib.hid har'
            have F0 := Lib.hid hb0'
            have F1 := Lib.hid hb1'
            have FE := Lib.hid (HBE.out.trans (fbel w.heap.size (by omega) (by omega)))
            have FX := Lib.hid (show KX (fun b => b = V0.heap.size + 1 ∨ b < w.heap.size) V wv from fun q hq => fblk q (by have := hX q hq; omega) (by have h : q = V0.heap.size + 1 ∨ q < w.heap.size := hq; omega) (own q (by have h : q = V0.heap.size + 1 ∨ q < w.heap.size := hq; omega)))
            have FKK := Lib.hid fk
            clear fb fr har' hb0' hb1' hbk' fk fblk fbel own HFP
            gi_wp2
            change KeepsFrom _ _ _ ∧ KX _ _ _ ∧ _
            refine ⟨(FKK.out _).trans ((KeepsOthers.setCell _ _ _).from _), FX.out.trans (KX.set hXB2), ⟨v', (other (by omega)).trans FB.out, ?_⟩, ?_, (other (by omega)).trans F0.out, (other (by omega)).trans F1.out, FE.out.setCell (p := ⟨w.heap.size + 1 + 1, T, none⟩) (by show w.heap.size ≤ w.heap.size + 1 + 1; omega) _⟩
            · rw [HREV.out, HLN.out]
              exact KS.own_keep FR.out (fun g hg => other (by have := (FR.out.lt g hg).1; omega))
            · exact (FA.out.set hT64 ys).ext (fun q hq => (HNX.out q).symm)
          case stp =>
            rintro fuel listed a wv ⟨l0, l1, l2, l3, l4, l5, l6, l7, l8, l9, l10, u0, u1, u2, u3, u4, u5, u6, u7, u8, u9, rfl, hc, rfl, ⟨k0, k1, k2, k3, k4, k5, k6, k7⟩, hG, h9, hb8, ha9, hf10⟩ i hi
            have hi11 : i < 11 := by
              have := (List.mem_filter.1 hi).1
              simpa using this
            rcases i with _ | _ | _ | _ | _ | _ | _ | _ | _ | _ | _ | i
            · have pre : l0 = false ∧ l9 = false ∧ l10 = false ∧ gB true l1 l2 l3 l4 l5 l6 l7 l8 l9 l10 = true := by
                clear hc k0 k1 k2 k3 k4 k5 k6 k7 h9 hb8 ha9 hf10
                revert hG hi
                revert l0 l1 l2 l3 l4 l5 l6 l7 l8 l9 l10
                decide +kernel
              obtain ⟨rfl, rfl, rfl, gn⟩ := pre
              refine wpOpIn_step rfl (fun K hK => ?_)
              have cw := ((h9 rfl).cell (p := ⟨V0.heap.size, 0, none⟩) hv3).trans hc3
              go_simp
              exact hK _ _ ⟨_, _, _, _, _, _, _, _, _, _, _, _, _, _, _, _, _, _, _, _, _, rfl, by (simp at hc ⊢; first | done | omega), rfl, ⟨by first | exact k0 | exact fun _ => rfl, by first | exact k1 | exact fun _ => rfl, by first | exact k2 | exact fun _ => rfl, by first | exact k3 | exact fun _ => rfl, by first | exact k4 | exact fun _ => rfl, by first | exact k5 | exact fun _ => rfl, by first | exact k6 | exact fun _ => rfl, by first | exact k7 | exact fun _ => rfl⟩, gn, h9, hb8, ha9, hf10⟩
            · have pre : l1 = false ∧ l7 = false ∧ l8 = false ∧ l9 = false ∧ l10 = false ∧ gB l0 true l2 l3 l4 l5 l6 l7 l8 l9 l10 = true := by
                clear hc k0 k1 k2 k3 k4 k5 k6 k7 h9 hb8 ha9 hf10
                revert hG hi
                revert l0 l1 l2 l3 l4 l5 l6 l7 l8 l9 l10
                decide +kernel
              obtain ⟨rfl, rfl, rfl, rfl, rfl, gn⟩ := pre
              refine wpOpIn_step rfl (fun K hK => ?_)
              have cw := ((h9 rfl).cell (p := ⟨w.heap.size + 1, 0, none⟩) hv1).trans hc1
              go_simp
              exact hK _ _ ⟨_, _, _, _, _, _, _, _, _, _, _, _, _, _, _, _, _, _, _, _, _, rfl, by (simp at hc ⊢; first | done | omega), rfl, ⟨by first | exact k0 | exact fun _ => rfl, by first | exact k1 | exact fun _ => rfl, by first | exact k2 | exact fun _ => rfl, by first | exact k3 | exact fun _ => rfl, by first | exact k4 | exact fun _ => rfl, by first | exact k5 | exact fun _ => rfl, by first | exact k6 | exact fun _ => rfl, by first | exact k7 | exact fun _ => rfl⟩, gn, h9, hb8, ha9, hf10⟩
            · have pre : l2 = false ∧ l7 = false ∧ l8 = false ∧ l9 = false ∧ l10 = false ∧ gB l0 l1 true l3 l4 l5 l6 l7 l8 l9 l10 = true := by
                clear hc k0 k1 k2 k3 k4 k5 k6 k7 h9 hb8 ha9 hf10
                revert hG hi
                revert l0 l1 l2 l3 l4 l5 l6 l7 l8 l9 l10
                decide +kernel
              obtain ⟨rfl, rfl, rfl, rfl, rfl, gn⟩ := pre
              refine wpOpIn_step rfl (fun K hK => ?_)
              obtain ⟨b0, b1, b2, b3⟩ := (HBK.out.below (h9 rfl) HBK.out.lt).c
              go_simp
              exact hK _ _ ⟨_, _, _, _, _, _, _, _, _, _, _, _, _, _, _, _, _, _, _, _, _, rfl, by (simp at hc ⊢; first | done | omega), rfl, ⟨by first | exact k0 | exact fun _ => rfl, by first | exact k1 | exact fun _ => rfl, by first | exact k2 | exact fun _ => rfl, by first | exact k3 | exact fun _ => rfl, by first | exact k4 | exact fun _ => rfl, by first | exact k5 | exact fun _ => rfl, by first | exact k6 | exact fun _ => rfl, by first | exact k7 | exact fun _ => rfl⟩, gn, h9, hb8, ha9, hf10⟩
            · have pre : l3 = false ∧ l4 = false ∧ l5 = false ∧ l6 = false ∧ l7 = false ∧ l8 = false ∧ l9 = false ∧ l10 = false ∧ gB l0 l1 l2 true l4 l5 l6 l7 l8 l9 l10 = true := by
                clear hc k0 k1 k2 k3 k4 k5 k6 k7 h9 hb8 ha9 hf10
                revert hG hi
                revert l0 l1 l2 l3 l4 l5 l6 l7 l8 l9 l10
                decide +kernel
              obtain ⟨rfl, rfl, rfl, rfl, rfl, rfl, rfl, rfl, gn⟩ := pre
              refine wpOpIn_step rfl (fun K hK => ?_)
              go_simp
              exact hK _ _ ⟨_, _, _, _, _, _, _, _, _, _, _, _, _, _, _, _, _, _, _, _, _, rfl, by (simp at hc ⊢; first | done | omega), rfl, ⟨by first | exact k0 | exact fun _ => rfl, by first | exact k1 | exact fun _ => rfl, by first | exact k2 | exact fun _ => rfl, by first | exact k3 | exact fun _ => rfl, by first | exact k4 | exact fun _ => rfl, by first | exact k5 | exact fun _ => rfl, by first | exact k6 | exact fun _ => rfl, by first | exact k7 | exact fun _ => rfl⟩, gn, h9, hb8, ha9, hf10⟩
            · have pre : l4 = false ∧ l5 = false ∧ l6 = false ∧ l7 = false ∧ l8 = false ∧ l9 = false ∧ l10 = false ∧ l3 = true ∧ gB l0 l1 l2 l3 true l5 l6 l7 l8 l9 l10 = true := by
                clear hc k0 k1 k2 k3 k4 k5 k6 k7 h9 hb8 ha9 hf10
                revert hG hi
                revert l0 l1 l2 l3 l4 l5 l6 l7 l8 l9 l10
                decide +kernel
              obtain ⟨rfl, rfl, rfl, rfl, rfl, rfl, rfl, rfl, gn⟩ := pre
              refine wpOpIn_step rfl (fun K hK => ?_)
              obtain rfl := k3 rfl
              obtain ⟨b0, b1, b2, b3⟩ := (HBK.out.below (h9 rfl) HBK.out.lt).c
              go_simp
              exact hK _ _ ⟨_, _, _, _, _, _, _, _, _, _, _, _, _, _, _, _, _, _, _, _, _, rfl, by (simp at hc ⊢; first | done | omega), rfl, ⟨by first | exact k0 | exact fun _ => rfl, by first | exact k1 | exact fun _ => rfl, by first | exact k2 | exact fun _ => rfl, by first | exact k3 | exact fun _ => rfl, by first | exact k4 | exact fun _ => rfl, by first | exact k5 | exact fun _ => rfl, by first | exact k6 | exact fun _ => rfl, by first | exact k7 | exact fun _ => rfl⟩, gn, h9, hb8, ha9, hf10⟩
            · have pre : l5 = false ∧ l6 = false ∧ l7 = false ∧ l8 = false ∧ l9 = false ∧ l10 = false ∧ l3 = true ∧ l4 = true ∧ gB l0 l1 l2 l3 l4 true l6 l7 l8 l9 l10 = true := by
                clear hc k0 k1 k2 k3 k4 k5 k6 k7 h9 hb8 ha9 hf10
                revert hG hi
                revert l0 l1 l2 l3 l4 l5 l6 l7 l8 l9 l10
                decide +kernel
              obtain ⟨rfl, rfl, rfl, rfl, rfl, rfl, rfl, rfl, gn⟩ := pre
              refine wpOpIn_step rfl (fun K hK => ?_)
              obtain rfl := k3 rfl
              obtain rfl := k4 rfl
              go_simp
              exact hK _ _ ⟨_, _, _, _, _, _, _, _, _, _, _, _, _, _, _, _, _, _, _, _, _, rfl, by (simp at hc ⊢; first | done | omega), rfl, ⟨by first | exact k0 | exact fun _ => rfl, by first | exact k1 | exact fun _ => rfl, by first | exact k2 | exact fun _ => rfl, by first | exact k3 | exact fun _ => rfl, by first | exact k4 | exact fun _ => rfl, by first | exact k5 | exact fun _ => rfl, by first | exact k6 | exact fun _ => rfl, by first | exact k7 | exact fun _ => rfl⟩, gn, h9, hb8, ha9, hf10⟩
            · have pre : l6 = false ∧ l7 = false ∧ l8 = false ∧ l9 = false ∧ l10 = false ∧ l3 = true ∧ l4 = true ∧ l5 = true ∧ gB l0 l1 l2 l3 l4 l5 true l7 l8 l9 l10 = true := by
                clear hc k0 k1 k2 k3 k4 k5 k6 k7 h9 hb8 ha9 hf10
                revert hG hi
                revert l0 l1 l2 l3 l4 l5 l6 l7 l8 l9 l10
                decide +kernel
              obtain ⟨rfl, rfl, rfl, rfl, rfl, rfl, rfl, rfl, gn⟩ := pre
              refine wpOpIn_step rfl (fun K hK => ?_)
              obtain rfl := k3 rfl
              obtain rfl := k4 rfl
              obtain rfl := k5 rfl
              have cz := (HAR.out.same ((h9 rfl).block _ HAR.out.lt)).cell hT64
              rw [HZ.out] at cz
              go_simp
              exact hK _ _ ⟨_, _, _, _, _, _, _, _, _, _, _, _, _, _, _, _, _, _, _, _, _, rfl, by (simp at hc ⊢; first | done | omega), rfl, ⟨by first | exact k0 | exact fun _ => rfl, by first | exact k1 | exact fun _ => rfl, by first | exact k2 | exact fun _ => rfl, by first | exact k3 | exact fun _ => rfl, by first | exact k4 | exact fun _ => rfl, by first | exact k5 | exact fun _ => rfl, by first | exact k6 | exact fun _ => rfl, by first | exact k7 | exact fun _ => rfl⟩, gn, h9, hb8, ha9, hf10⟩
            · have pre : l7 = false ∧ l8 = false ∧ l9 = false ∧ l10 = false ∧ l1 = true ∧ l2 = true ∧ l3 = true ∧ l4 = true ∧ l5 = true ∧ l6 = true ∧ gB l0 l1 l2 l3 l4 l5 l6 true l8 l9 l10 = true := by
                clear hc k0 k1 k2 k3 k4 k5 k6 k7 h9 hb8 ha9 hf10
                revert hG hi
                revert l0 l1 l2 l3 l4 l5 l6 l7 l8 l9 l10
                decide +kernel
              obtain ⟨rfl, rfl, rfl, rfl, rfl, rfl, rfl, rfl, rfl, rfl, gn⟩ := pre
              refine wpOpIn_step rfl (fun K hK => ?_)
              obtain rfl := k1 rfl
              obtain rfl := k2 rfl
              obtain rfl := k3 rfl
              obtain rfl := k4 rfl
              obtain rfl := k5 rfl
              obtain rfl := k6 rfl
              have bb := h9 rfl
              go_simp
              refine (CMD _ _).out.mono ?_
              rintro e w7 ⟨rfl, b7⟩
              exact hK _ _ ⟨_, _, _, _, _, _, _, _, _, _, _, _, _, _, _, _, _, _, _, _, _, rfl, by (simp at hc ⊢; first | done | omega), rfl, ⟨by first | exact k0 | exact fun _ => rfl, by first | exact k1 | exact fun _ => rfl, by first | exact k2 | exact fun _ => rfl, by first | exact k3 | exact fun _ => rfl, by first | exact k4 | exact fun _ => rfl, by first | exact k5 | exact fun _ => rfl, by first | exact k6 | exact fun _ => rfl, by first | exact k7 | exact fun _ => rfl⟩, gn, fun _ => bb.trans (b7.mono bb.size), by simp, by simp, by simp⟩
            · have pre : l8 = false ∧ l9 = false ∧ l10 = false ∧ l1 = true ∧ l2 = true ∧ l3 = true ∧ l4 = true ∧ l5 = true ∧ l6 = true ∧ l7 = true ∧ gB l0 l1 l2 l3 l4 l5 l6 l7 true l9 l10 = true := by
                clear hc k0 k1 k2 k3 k4 k5 k6 k7 h9 hb8 ha9 hf10
                revert hG hi
                revert l0 l1 l2 l3 l4 l5 l6 l7 l8 l9 l10
                decide +kernel
              obtain ⟨rfl, rfl, rfl, rfl, rfl, rfl, rfl, rfl, rfl, rfl, gn⟩ := pre
              refine wpOpIn_step rfl (fun K hK => ?_)
              obtain rfl := k1 rfl
              obtain rfl := k2 rfl
              obtain rfl := k3 rfl
              obtain rfl := k4 rfl
              obtain rfl := k5 rfl
              obtain rfl := k6 rfl
              obtain rfl := k7 rfl
              have bb := h9 rfl
              go_simp
              exact hK _ _ ⟨_, _, _, _, _, _, _, _, _, _, _, _, _, _, _, _, _, _, _, _, _, rfl, by (simp at hc ⊢; first | done | omega), rfl, ⟨by first | exact k0 | exact fun _ => rfl, by first | exact k1 | exact fun _ => rfl, by first | exact k2 | exact fun _ => rfl, by first | exact k3 | exact fun _ => rfl, by first | exact k4 | exact fun _ => rfl, by first | exact k5 | exact fun _ => rfl, by first | exact k6 | exact fun _ => rfl, by first | exact k7 | exact fun _ => rfl⟩, gn, fun _ => bb.alloc bb.size _, fun _ _ => ⟨_, rfl, (MapKept.heap_alloc _ _).1, bb.size⟩, by simp, by simp⟩
            · have pre : l9 = false ∧ l10 = false ∧ l0 = true ∧ l1 = true ∧ l2 = true ∧ l3 = true ∧ l4 = true ∧ l5 = true ∧ l6 = true ∧ l7 = true ∧ l8 = true ∧ gB l0 l1 l2 l3 l4 l5 l6 l7 l8 true l10 = true := by
                clear hc k0 k1 k2 k3 k4 k5 k6 k7 h9 hb8 ha9 hf10
                revert hG hi
                revert l0 l1 l2 l3 l4 l5 l6 l7 l8 l9 l10
                decide +kernel
              obtain ⟨rfl, rfl, rfl, rfl, rfl, rfl, rfl, rfl, rfl, rfl, rfl, gn⟩ := pre
              refine wpOpIn_step rfl (fun K hK => ?_)
              obtain rfl := k0 rfl
              obtain rfl := k1 rfl
              obtain rfl := k2 rfl
              obtain rfl := k3 rfl
              obtain rfl := k4 rfl
              obtain rfl := k5 rfl
              obtain rfl := k6 rfl
              obtain rfl := k7 rfl
              have bb := h9 rfl
              obtain ⟨g, rfl, hg, hVg⟩ := hb8 rfl rfl
              refine KS.stepX rfl (.tmp 26) (.tmp 34) rfl (V0.heap.size + 2) _ L Z #[.int .i64 (T : Nat), .int .u64 yv, .int .i64 ys, .int .i64 z] g rfl (KS.own_below HRW.out bb) rfl hg HZS.out hLl (by have := bb.size; omega) ?_
              intro v' w9 r1 r2
              exact hK _ _ ⟨_, _, _, _, _, _, _, _, _, _, _, _, _, _, _, _, _, _, _, _, _, rfl, by (simp at hc ⊢; first | done | omega), rfl, ⟨by first | exact k0 | exact fun _ => rfl, by first | exact k1 | exact fun _ => rfl, by first | exact k2 | exact fun _ => rfl, by first | exact k3 | exact fun _ => rfl, by first | exact k4 | exact fun _ => rfl, by first | exact k5 | exact fun _ => rfl, by first | exact k6 | exact fun _ => rfl, by first | exact k7 | exact fun _ => rfl⟩, gn, by simp, by simp, fun _ _ => ⟨_, bb, r1, r2⟩, by simp⟩
            · have pre : l10 = false ∧ l0 = true ∧ l1 = true ∧ l2 = true ∧ l3 = true ∧ l4 = true ∧ l5 = true ∧ l6 = true ∧ l7 = true ∧ l8 = true ∧ l9 = true ∧ gB l0 l1 l2 l3 l4 l5 l6 l7 l8 l9 true = true := by
                clear hc k0 k1 k2 k3 k4 k5 k6 k7 h9 hb8 ha9 hf10
                revert hG hi
                revert l0 l1 l2 l3 l4 l5 l6 l7 l8 l9 l10
                decide +kernel
              obtain ⟨rfl, rfl, rfl, rfl, rfl, rfl, rfl, rfl, rfl, rfl, rfl, gn⟩ := pre
              refine wpOpIn_step rfl (fun K hK => ?_)
              obtain rfl := k0 rfl
              obtain rfl := k1 rfl
              obtain rfl := k2 rfl
              obtain rfl := k3 rfl
              obtain rfl := k4 rfl
              obtain rfl := k5 rfl
              obtain rfl := k6 rfl
              obtain rfl := k7 rfl
              obtain ⟨w1, bb, r1, r2⟩ := ha9 rfl rfl
              obtain ⟨A7, n7, c7, rfl⟩ := row_slice r1
              have FN := app_fin KS HV.out HRW.out bb rfl r1 r2 (by omega)
              have cb := FN.1.cell
              have fb := FN.1.frozen
              go_simp
              exact hK _ _ ⟨_, _, _, _, _, _, _, _, _, _, _, _, _, _, _, _, _, _, _, _, _, rfl, by (simp at hc ⊢; first | done | omega), rfl, ⟨by first | exact k0 | exact fun _ => rfl, by first | exact k1 | exact fun _ => rfl, by first | exact k2 | exact fun _ => rfl, by first | exact k3 | exact fun _ => rfl, by first | exact k4 | exact fun _ => rfl, by first | exact k5 | exact fun _ => rfl, by first | exact k6 | exact fun _ => rfl, by first | exact k7 | exact fun _ => rfl⟩, gn, by simp, by simp, by simp, fun _ => FN.2⟩
            · omega
        · have t0 : (yk == kk) = false := by simpa using hk
          rw [if_neg hk] at HIV
          have HREV := Lib.hid (show (ivs kk (sf (pre ++ [x]))).reverse = L from by rw [HIV.out, HLL.out])
          have HLN := Lib.hid (show (ivs kk (sf (pre ++ [x]))).length = L.length from by rw [← HREV.out, List.length_reverse])
          clear hk
          gi_wp2
          change KeepsFrom _ _ _ ∧ KX _ _ _ ∧ _
          refine ⟨(KeepsOthers.setCell _ _ _).from _, KX.set hXB2, ⟨v, (other (by omega)).trans HV.out, ?_⟩, ?_, (other (by omega)).trans HB0'.out, (other (by omega)).trans HB1'.out, HBE.out.setCell (p := ⟨w.heap.size + 1 + 1, T, none⟩) (by show w.heap.size ≤ w.heap.size + 1 + 1; omega) _⟩
          · rw [HREV.out, HLN.out]
            exact KS.own_keep HRW.out (fun g hg => other (by have := (HRW.out.lt g hg).1; omega))
          · exact (HAR.out.set hT64 ys).ext (fun q hq => (HNX.out q).symm)
      case done =>
        rintro D ys V hD rfl ⟨⟨v, hv, hrow, _⟩, har, hb0, hb1, hbel⟩ hK
        rw [sf_all] at hrow
        have hlen : (ivs kk xs).reverse.length ≤ 100000 := by rw [List.length_reverse]; have := ivs_len kk xs; have := HL.out; omega
        have CREV := Lib.hid (hwide (n := n - 1) (revS_any v (V0.heap.size + 2) (ivs kk xs).reverse V hlen hrow))
        have hc3 := hv.cell
        have HV := Lib.hid hv
        have HRW := Lib.hid hrow
        have HBE := Lib.hid hbel
        have HKD := Lib.hid hK
        have HLR := Lib.hid (show (ivs kk xs).reverse.length = (ivs kk xs).length from List.length_reverse)
        have hne3 : v.ownBlock ≠ some V0.heap.size := fun e => by have := (hrow.lt _ e).1; omega
        have hneD : v.ownBlock ≠ some D := fun e => by
          rcases hrow.2 with ⟨rfl, _⟩ | ⟨g, cap, cur, rfl, _, hgb, _⟩
          · cases e
          · have : g = D := by simpa [Value.ownBlock] using e
            subst this
            rw [hgb] at hK; cases hK
        clear hv hrow har hb0 hb1 hbel hK hlen
        gi_wp2_with (gi_at_call 53; refine CREV.out.mono ?_; rintro e w9 ⟨rfl, ow9, b9, o9, s9⟩; have hc9 := (World.cell?_of_block (a := ⟨V0.heap.size, 0, none⟩) (o9 _ hne3)).trans hc3)
        have hK1 := (o9 D hneD).trans HKD.out
        refine ⟨by simp, .inl ⟨_, _, rfl, run_takeDeferred hK1, ?_⟩⟩
        refine ⟨_, results_tmp rfl _ _ _, v, rfl, ?_, ?_⟩
        · rw [List.reverse_reverse] at ow9
          rw [HLR.out] at ow9
          exact ownsRow_putObj (row_base ow9 (by omega)) _ hK1 rfl
        · exact (hB1.trans (HBE.out.trans (b9.mono (by omega)))).trans (belowK_b (w := w) (Nat.le_refl _) w9 D _ _ (by have := hB1.size; omega) hK1 rfl rfl)
      case stop =>
        rintro D c pre W _ _ h _
        exact h.elim
theorem collectS_any (kk : Int) (A : Option Addr) (m c : Nat) (xs : List E) (hl : xs.length = m) (hm : m ≤ 1000) (hb : ∀ e ∈ xs, 0 ≤ e.t ∧ e.t < 64) (w : World) (hrd : KE.Rd w A xs) :
    Calls Try.prog 48 #[.slice A m c, .int .u8 kk, .func (.func 49) #[] #[]] w (RoPost KS (ivs kk xs) w) :=
  callsIn_wide.1 (collectS_in Fence.wide (fun _ => trivial) rfl (fun h => callsIn_wide.2 h) 5 (Nat.le_refl _) kk A m c xs hl hm hb w hrd)
end Ev
end Go.Proofs.Ytbnchajkfceaoaa
