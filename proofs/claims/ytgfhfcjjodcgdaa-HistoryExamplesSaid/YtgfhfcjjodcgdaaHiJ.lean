/- Package history: agrees and Agrees: contracts of the translated code. Conditions: those of each lemma. Written by tools/mk12j.py. -/
import Derived.Test.YtgfhfcjjodcgdaaHiF
import Derived.Maps.OwnIn
import Derived.SizedLaws
namespace Go.Proofs.Ytgfhfcjjodcgdaa
open Go.RowKit Go.Shelf Go.Sort
set_option linter.unusedVariables false
set_option linter.unusedSimpArgs false
attribute [local go_sem] Oper.semAt_some
namespace Hi
section
variable {F : Fence} {n : Nat} {P : Program} {md : Region.Mode} {ops : Array Oper} {Q : Exit → Act → World → Prop}
/-- a region in any order, by what holds after each set of operations -/
theorem any_inv (I : Nat → Array Bool → Act → World → Prop)
    (h0 : ∀ fuel listed a w, I fuel listed a w → Region.ready md ops listed = [] → Q .normal a w)
    (hz : ∀ listed a w, I 0 listed a w → Region.ready md ops listed = [])
    (hs : ∀ fuel listed a w, I (fuel + 1) listed a w → ∀ i ∈ Region.ready md ops listed, wpOpIn F n P ops Q i (I fuel (listed.setIfInBounds i true)) a w) :
    ∀ (fuel : Nat) (listed : Array Bool) (a : Act) (w : World), I fuel listed a w → wpAnyIn F n P md ops Q fuel listed a w
  | 0, listed, a, w, h => ⟨hz _ _ _ h, h0 _ _ _ _ h (hz _ _ _ h)⟩
  | fuel + 1, listed, a, w, h => ⟨h0 _ _ _ _ h, fun i hi => wpOpIn_mono (fun a w h => any_inv I h0 hz hs fuel _ a w h) (hs _ _ _ _ h i hi)⟩
/-- a load of a call as one step of a region in a fence -/
theorem ldX {nF : Nat} {o : Oper} {a : Act} {w : World} {D : Act → World → Prop} {R : Prop} (hgd : o.guard = none) (p : Operand) (ho : o.op = .load 47 p) (b off : Nat) (hp : a.eval p = .pointer (some ⟨b, off, none⟩)) (x : C) (hx : KC.At w b off x)
    (h : D (a.put o.dst (.agg #[.int .i64 x.t, .int .i64 x.i, .int .u8 x.k, .int .u64 x.p0, .int .u64 x.p1, .int .u64 x.p2, .int .u64 x.p3, .int .u64 x.p4, .int .u64 x.p5, .int .i64 x.v, .int .i64 x.u, .int .i64 x.a, .int .i64 x.s, .int .i64 x.re, .bool x.rf, .int .u64 x.rk, .int .u64 x.rv, .int .i64 x.rc])) w) : if Region.wanted o (yielded ops a.tmps) = true then Oper.wpIn F nF Try.prog o a w D Q else R := by
  have hw : Region.wanted o (yielded ops a.tmps) = true := by simp [Region.wanted, hgd]
  rw [if_pos hw]
  unfold Oper.wpIn
  refine ⟨by simp [Oper.about, ho], ?_⟩
  rw [Oper.semAt_plain F _ _ (by rw [ho]; intro c hc'; cases hc')]
  simp only [execOp, ho, hp, Instr.loadAt, Instr.sureAddr, Sem.run_bind, Sem.run_pure, Result.andThen_ok, run_loadVar_mid w b off 47 [.int .i64 x.t, .int .i64 x.i, .int .u8 x.k, .int .u64 x.p0, .int .u64 x.p1, .int .u64 x.p2, .int .u64 x.p3, .int .u64 x.p4, .int .u64 x.p5, .int .i64 x.v, .int .i64 x.u, .int .i64 x.a, .int .i64 x.s, .int .i64 x.re, .bool x.rf, .int .u64 x.rk, .int .u64 x.rv, .int .i64 x.rc] _ hx Try.underlying47 rfl sz_call]
  exact h
end
def gA (l0 l1 l2 l3 l4 : Bool) : Bool := (!l2 || l1) && (!l3 || l0) && (!l3 || l2) && (!l4 || l3)
def gC (l0 l1 l2 l3 l4 l5 l6 l7 : Bool) : Bool := (!l3 || l1) && (!l3 || l2) && (!l4 || l3) && (!l5 || l4) && (!l6 || l0) && (!l6 || l5) && (!l7 || l6)
/-- the boxes of agrees -/
structure Ag (w W : World) (S : Value) (M : Int) : Prop where
  b5 : Boxed W w.heap.size 22 S
  b6 : Boxed W (w.heap.size + 1) 4 (.bool false)
  b7 : Boxed W (w.heap.size + 2) 3 (.int .i64 M)
  bel : Below w.heap.size w W
theorem Ag.size {w W : World} {S : Value} {M : Int} (h : Ag w W S M) : w.heap.size + 2 < W.heap.size := h.b7.lt
theorem Ag.next {w W W' : World} {S : Value} {M : Int} (h : Ag w W S M) (hb : Below W.heap.size W W') : Ag w W' S M :=
  ⟨(hb.block _ h.b5.lt).trans h.b5, (hb.block _ h.b6.lt).trans h.b6, (hb.block _ h.b7.lt).trans h.b7, h.bel.trans (hb.mono h.bel.size)⟩
theorem Ag.put {w W : World} {S : Value} {M : Int} (h : Ag w W S M) (N : Int) : Ag w (W.setCell ⟨w.heap.size + 2, 0, none⟩ (.int .i64 N)) S N :=
  ⟨(Below.heap_setCell W ⟨w.heap.size + 2, 0, none⟩ _ _ (by show w.heap.size ≠ w.heap.size + 2; omega)).trans h.b5, (Below.heap_setCell W ⟨w.heap.size + 2, 0, none⟩ _ _ (by show w.heap.size + 1 ≠ w.heap.size + 2; omega)).trans h.b6, h.b7.set _, h.bel.setCell (p := ⟨w.heap.size + 2, 0, none⟩) (by show w.heap.size ≤ w.heap.size + 2; omega) _⟩
theorem ag_own {β : Type} {w : World} {B : Nat} (hB : w.heap.size + 3 ≤ B) (S : Value) (f : β → Int) : OwnFrom B (fun s W => Ag w W S (f s)) := fun s X Y row hs hg hr =>
  ⟨(Own.from (boxed_own (β := β) w.heap.size 22 S) B) s X Y row hs.b5 hg hr, (Own.from (boxed_own (β := β) (w.heap.size + 1) 4 (.bool false)) B) s X Y row hs.b6 hg hr,
    (Own.from (Go.boxed_own (β := β) (w.heap.size + 2) 3 (fun s => .int .i64 (f s))) B) s X Y row hs.b7 hg hr, (ownFrom_below (β := β) (B := B) (Nat.le_refl _) (by omega)) s X Y row hs.bel hg hr⟩
theorem keeps_below {B : Nat} {V W : World} (h : Below V.heap.size V W) : KeepsFrom B V W := ⟨h.size, fun k o _ hk ho => (h.block k (Array.getElem?_eq_some_iff.1 hk).1).trans hk⟩
theorem keeps_draw {B : Nat} {V W : World} (h : KeepsFrom B V W) : KeepsFrom B V W.drew := ⟨h.1, h.2⟩
theorem Ag.new (w : World) (S : Value) : Ag w (((w.alloc (.cells #[S] 22)).alloc (.cells #[.bool false] 4)).alloc (.cells #[.int .i64 9223372036854775807] 3)) S maxI := by
  refine ⟨((Boxed.new w _ _).alloc _).alloc _, ?_, ?_, bel_alloc (bel_alloc (bel_alloc (Below.refl _ _) _) _) _⟩
  · have := (Boxed.new (w.alloc (.cells #[S] 22)) 4 (.bool false)).alloc (.cells #[.int .i64 9223372036854775807] 3)
    rwa [World.size_alloc] at this
  · have := Boxed.new ((w.alloc (.cells #[S] 22)).alloc (.cells #[.bool false] 4)) 3 (.int .i64 9223372036854775807)
    rwa [World.size_alloc, World.size_alloc] at this
set_option maxRecDepth 100000 in
set_option maxHeartbeats 4000000 in
theorem agrees_any (A : Option Addr) (mo co : Nat) (o : List Int) (hlo : o.length = mo) (hmo : mo ≤ 1000) (B : Nat) (n : Nat) (Al : Option Addr) (cl : Nat) (l : List C) (hl : l.length = n) (hn : n ≤ 1000) (w : World) (hrd : KI.Rd w A o) (hrl : KC.Rd w Al l) (hb : Rb w B n (inO o mo)) (hwf : WF l) (hbd : Bd l) (he : ordE n o = 0) :
    Calls Try.prog 47 #[.slice A mo co, .slice (some ⟨B, 0, none⟩) n n, .slice Al n cl] w fun e w' => e = .returned (.bool (agB l o)) ∧ Below w.heap.size w w' := by
  have HL := Lib.hid hl
  have HLO := Lib.hid hlo
  have HRO := Lib.hid hrd
  have HRL := Lib.hid hrl
  have HB := Lib.hid hb
  have mo1 : (mo : Int) ≤ 1000 := by omega
  have n1 : (n : Int) ≤ 1000 := by omega
  have HAG := Lib.hid (show agB l o = true ↔ pas l (outs l o n) (bO o) from by have := agB_pas hwf (fun c hc => by have := (hbd c hc).v; unfold I64 at this; unfold maxI; omega) (by rw [hl]; exact he); rw [hl] at this; exact this)
  have HOI := Lib.hid (show ∀ k, k < mo → 0 ≤ o.getD k 0 ∧ o.getD k 0 < n from fun k hk => by have := ord_in he (k := k) (by omega); exact ⟨this.1, this.2.1⟩)
  clear hl hlo hrd hrl hb hwf he
  refine (callsIn_wide (n := 6)).1 ?_
  refine callsIn_of_wp_marks Try.func47 rfl trivial ?_ rfl
  simp only [Try.ntmps47, List.size_toArray, List.length_cons, List.length_nil, Nat.reduceAdd, Nat.reduceSub, Array.replicate_succ, Array.replicate_zero, List.push_toArray, List.append_toArray, List.nil_append, List.cons_append]
  refine wpIn_wide.2 ?_
  go_wp2_with fail
  go_loopw [14] (fun i wr => ∃ k : Nat, k ≤ n ∧ i = .int .i64 k ∧ Ag w wr (.slice Al n cl) (minE l (outs l o k))) (fun i _ => (n - intOf i).toNat)
  case atStart => exact ⟨0, Nat.zero_le _, rfl, Ag.new w _⟩
  case round =>
    obtain ⟨k, hk, rfl, ag⟩ := hrel
    have AG := Lib.hid ag
    clear ag
    by_cases hkn : k < n
    · have hkl : k < l.length := by rw [HL.out]; exact hkn
      have d0 : decide ((k : Int) < n) = true := decide_eq_true (by omega)
      have j1 : (k : Int) < n := by omega
      obtain ⟨b, oo, rfl, hat⟩ := KC.at_ (HRL.out.below AG.out.bel) hkl
      have AT := Lib.hid hat
      have hbx := hbd.get hkl
      obtain ⟨k0, -⟩ := (HB.out.below AG.out.bel).cell hkn
      have hBl : B < wr.heap.size := (HB.out.below AG.out.bel).lt
      have OY := Lib.hid (outs_yes (l := l) (o := o) (k := k))
      have ON := Lib.hid (outs_no (l := l) (o := o) (k := k))
      have MS := Lib.hid (minE_snoc l (outs l o k) k)
      have IA := Lib.hid (congrFun (inO_all HLO.out) k)
      obtain ⟨x, hx⟩ : ∃ x, l.getD k c0 = x := ⟨_, rfl⟩
      rw [hx] at AT MS hbx
      obtain ⟨M, hM⟩ : ∃ M, minE l (outs l o k) = M := ⟨_, rfl⟩
      have HM := Lib.hid hM
      rw [hM] at AG MS
      have AG2 := Lib.hid (AG.out.next (bel_alloc (Below.refl _ _) (.cells #[.int .i64 x.t, .int .i64 x.i, .int .u8 x.k, .int .u64 x.p0, .int .u64 x.p1, .int .u64 x.p2, .int .u64 x.p3, .int .u64 x.p4, .int .u64 x.p5, .int .i64 x.v, .int .i64 x.u, .int .i64 x.a, .int .i64 x.s, .int .i64 x.re, .bool x.rf, .int .u64 x.rk, .int .u64 x.rv, .int .i64 x.rc] 47)))
      have AT2 := Lib.hid (KC.at_new wr x)
      clear hat hx hM
      cases hi : inO o mo k with
      | true =>
        rw [hi] at k0
        have OY2 := Lib.hid (OY.out (IA.out.symm.trans hi))
        go_wp2_with (first | (refine ld rfl _ rfl _ _ rfl x AT.out ?_) | (refine st_new rfl _ _ rfl wr _ rfl rfl rfl x rfl ?_))
        go_roundw
        case rel => exact ⟨k + 1, by omega, by go_num, by rw [OY2.out, HM.out]; exact AG2.out⟩
        case measure => simp [intOf]; omega
      | false =>
        rw [hi] at k0
        have ON2 := Lib.hid (ON.out (IA.out.symm.trans hi))
        have ESZ := Lib.hid (World.size_alloc wr (.cells #[.int .i64 x.t, .int .i64 x.i, .int .u8 x.k, .int .u64 x.p0, .int .u64 x.p1, .int .u64 x.p2, .int .u64 x.p3, .int .u64 x.p4, .int .u64 x.p5, .int .i64 x.v, .int .i64 x.u, .int .i64 x.a, .int .i64 x.s, .int .i64 x.re, .bool x.rf, .int .u64 x.rk, .int .u64 x.rv, .int .i64 x.rc] 47))
        go_wp2_with (first | (refine ld rfl _ rfl _ _ rfl x AT.out ?_) | (refine st_new rfl _ _ rfl wr _ rfl rfl rfl x rfl ?_))
        obtain ⟨V, hV⟩ : ∃ V : World, V = wr.alloc (.cells #[.int .i64 x.t, .int .i64 x.i, .int .u8 x.k, .int .u64 x.p0, .int .u64 x.p1, .int .u64 x.p2, .int .u64 x.p3, .int .u64 x.p4, .int .u64 x.p5, .int .i64 x.v, .int .i64 x.u, .int .i64 x.a, .int .i64 x.s, .int .i64 x.re, .bool x.rf, .int .u64 x.rk, .int .u64 x.rv, .int .i64 x.rc] 47) := ⟨_, rfl⟩
        rw [← hV] at AG2 AT2 ⊢
        obtain ⟨bc, hbc⟩ : ∃ bc, wr.heap.size = bc := ⟨_, rfl⟩
        rw [hbc] at AT2 ⊢
        have AGV := Lib.hid AG2.out
        have ATV := Lib.hid AT2.out
        obtain ⟨E, hE⟩ : ∃ E, endV x = E := ⟨_, rfl⟩
        rw [hE] at MS
        have hf3 : Fence.wide.fn 64 := trivial
        have CE2 := fun (n : Nat) (W : World) => Lib.hid (show CallsIn Fence.wide n Try.prog 64 #[.agg #[.int .i64 x.t, .int .i64 x.i, .int .u8 x.k, .int .u64 x.p0, .int .u64 x.p1, .int .u64 x.p2, .int .u64 x.p3, .int .u64 x.p4, .int .u64 x.p5, .int .i64 x.v, .int .i64 x.u, .int .i64 x.a, .int .i64 x.s, .int .i64 x.re, .bool x.rf, .int .u64 x.rk, .int .u64 x.rv, .int .i64 x.rc]] W fun e w' => e = .returned (.int .i64 E) ∧ Below W.heap.size W w' from by rw [← hE]; exact (callsIn_wide (n := n)).2 (ending_any x W))
        clear hV hbc hE AG2 AT2 AT k0
        have hmix : Try.prog.follows .mixedOrders = true := by kernel_rfl
        refine (wpIn_wide (n := 6)).1 ?_
        refine wpIn_region_any hmix ?_
        change wpAnyIn _ _ _ _ _ _ _ _ _ (World.drew _)
        refine any_inv (fun fuel listed a wv => ∃ (l0 l1 l2 l3 l4 : Bool) (v0 v1 v2 v3 : Value), listed = #[l0, l1, l2, l3, l4] ∧ fuel = (if l0 = true then 0 else 1) + (if l1 = true then 0 else 1) + (if l2 = true then 0 else 1) + (if l3 = true then 0 else 1) + (if l4 = true then 0 else 1) ∧ a = { tmps := #[.slice A mo co, .slice (some ⟨B, 0, none⟩) n n, .slice (some ⟨b, oo, none⟩) n cl, undef, undef, .pointer (some ⟨w.heap.size, 0, none⟩), .pointer (some ⟨w.heap.size + 1, 0, none⟩), .pointer (some ⟨w.heap.size + 1 + 1, 0, none⟩), .int .i64 (k : Nat), .pointer (some ⟨bc, 0, none⟩), undef, undef, .slice (some ⟨b, oo, none⟩) n cl, .int .i64 (n : Nat), .int .i64 (k : Nat), .bool true, .int .i64 (k : Nat), .pointer (some ⟨b, oo + k * 18, none⟩), .agg #[.int .i64 x.t, .int .i64 x.i, .int .u8 x.k, .int .u64 x.p0, .int .u64 x.p1, .int .u64 x.p2, .int .u64 x.p3, .int .u64 x.p4, .int .u64 x.p5, .int .i64 x.v, .int .i64 x.u, .int .i64 x.a, .int .i64 x.s, .int .i64 x.re, .bool x.rf, .int .u64 x.rk, .int .u64 x.rv, .int .i64 x.rc], .slice (some ⟨B, 0, none⟩) n n, .int .i64 (k : Nat), .pointer (some ⟨B, k, none⟩), .bool false, .bool true, v0, v1, v2, v3, u28, undef, undef, undef, undef, undef, undef, undef, undef, undef, undef, undef, undef, undef, undef, undef, undef, undef, undef], defers := [] } ∧ ((l0 = true → v0 = .int .i64 M) ∧ (l1 = true → v1 = .agg #[.int .i64 x.t, .int .i64 x.i, .int .u8 x.k, .int .u64 x.p0, .int .u64 x.p1, .int .u64 x.p2, .int .u64 x.p3, .int .u64 x.p4, .int .u64 x.p5, .int .i64 x.v, .int .i64 x.u, .int .i64 x.a, .int .i64 x.s, .int .i64 x.re, .bool x.rf, .int .u64 x.rk, .int .u64 x.rv, .int .i64 x.rc]) ∧ (l2 = true → v2 = .int .i64 E) ∧ (l3 = true → v3 = .int .i64 (min M E))) ∧ gA l0 l1 l2 l3 l4 = true ∧ ((l4 = false → Below V.heap.size V wv) ∧ (l4 = true → ∃ w1, Below V.heap.size V w1 ∧ wv = w1.setCell ⟨w.heap.size + 1 + 1, 0, none⟩ (.int .i64 (min M E))))) ?fin ?zer ?stp _ _ _ _ ?ini
        case ini => exact ⟨false, false, false, false, false, u24, u25, u26, u27, rfl, rfl, rfl, ⟨by simp, by simp, by simp, by simp⟩, rfl, fun _ => bel_draw (Below.refl _ _), by simp⟩
        case zer =>
          rintro listed a wv ⟨l0, l1, l2, l3, l4, v0, v1, v2, v3, rfl, hc, -, -, hG, -, -⟩
          revert hc hG
          revert l0 l1 l2 l3 l4
          decide +kernel
        case fin =>
          rintro fuel listed a wv ⟨l0, l1, l2, l3, l4, v0, v1, v2, v3, rfl, hc, rfl, -, hG, -, hfn⟩ hr
          have hlz : l4 = true := by
            clear hc hfn
            revert hG hr
            revert l0 l1 l2 l3 l4
            decide +kernel
          have HFP := Lib.hid (hfn hlz)
          clear hc hfn hlz hr hG
          obtain ⟨w1, b1, rfl⟩ := HFP.out
          have AGN := Lib.hid ((AGV.out.next b1).put (min M E))
          go_wp2_with fail
          go_roundw
          case rel => exact ⟨k + 1, by omega, by go_num, by rw [ON2.out, MS.out]; exact AGN.out⟩
          case measure => simp [intOf]; omega
        case stp =>
          rintro fuel listed a wv ⟨l0, l1, l2, l3, l4, v0, v1, v2, v3, rfl, hc, rfl, ⟨k0, k1, k2, k3⟩, hG, hz, hfn⟩ i hi
          have hib : i < 5 := by
            have := (List.mem_filter.1 hi).1
            simpa using this
          rcases i with _ | _ | _ | _ | _ | i
          · have pre : l0 = false ∧ l3 = false ∧ l4 = false ∧ gA true l1 l2 l3 l4 = true := by
              clear hc k0 k1 k2 k3 hz hfn
              revert hG hi
              revert l0 l1 l2 l3 l4
              decide +kernel
            obtain ⟨rfl, rfl, rfl, gn⟩ := pre
            refine wpOpIn_step rfl (fun K hK => ?_)
            have cw := (AGV.out.next (hz rfl)).b7.cell
            go_simp
            exact hK _ _ ⟨_, _, _, _, _, _, _, _, _, rfl, by (simp at hc ⊢; first | done | omega), rfl, ⟨by first | exact k0 | exact fun _ => rfl, by first | exact k1 | exact fun _ => rfl, by first | exact k2 | exact fun _ => rfl, by first | exact k3 | exact fun _ => rfl⟩, gn, hz, hfn⟩
          · have pre : l1 = false ∧ l2 = false ∧ l3 = false ∧ l4 = false ∧ gA l0 true l2 l3 l4 = true := by
              clear hc k0 k1 k2 k3 hz hfn
              revert hG hi
              revert l0 l1 l2 l3 l4
              decide +kernel
            obtain ⟨rfl, rfl, rfl, rfl, gn⟩ := pre
            refine wpOpIn_step rfl (fun K hK => ?_)
            refine ldX rfl _ rfl bc 0 rfl x (ATV.out.bel (hz rfl) ATV.out.lt) ?_
            exact hK _ _ ⟨_, _, _, _, _, _, _, _, _, rfl, by (simp at hc ⊢; first | done | omega), rfl, ⟨by first | exact k0 | exact fun _ => rfl, by first | exact k1 | exact fun _ => rfl, by first | exact k2 | exact fun _ => rfl, by first | exact k3 | exact fun _ => rfl⟩, gn, hz, hfn⟩
          · have pre : l2 = false ∧ l3 = false ∧ l4 = false ∧ l1 = true ∧ gA l0 l1 true l3 l4 = true := by
              clear hc k0 k1 k2 k3 hz hfn
              revert hG hi
              revert l0 l1 l2 l3 l4
              decide +kernel
            obtain ⟨rfl, rfl, rfl, rfl, gn⟩ := pre
            refine wpOpIn_step rfl (fun K hK => ?_)
            obtain rfl := k1 rfl
            have bb := hz rfl
            go_simp
            refine (CE2 _ _).out.mono ?_
            rintro e w7 ⟨rfl, b7⟩
            exact hK _ _ ⟨_, _, _, _, _, _, _, _, _, rfl, by (simp at hc ⊢; first | done | omega), rfl, ⟨by first | exact k0 | exact fun _ => rfl, by first | exact k1 | exact fun _ => rfl, by first | exact k2 | exact fun _ => rfl, by first | exact k3 | exact fun _ => rfl⟩, gn, fun _ => bb.trans (b7.mono bb.size), by simp⟩
          · have pre : l3 = false ∧ l4 = false ∧ l0 = true ∧ l1 = true ∧ l2 = true ∧ gA l0 l1 l2 true l4 = true := by
              clear hc k0 k1 k2 k3 hz hfn
              revert hG hi
              revert l0 l1 l2 l3 l4
              decide +kernel
            obtain ⟨rfl, rfl, rfl, rfl, rfl, gn⟩ := pre
            refine wpOpIn_step rfl (fun K hK => ?_)
            obtain rfl := k0 rfl
            obtain rfl := k1 rfl
            obtain rfl := k2 rfl
            go_simp
            exact hK _ _ ⟨_, _, _, _, _, _, _, _, _, rfl, by (simp at hc ⊢; first | done | omega), rfl, ⟨by first | exact k0 | exact fun _ => rfl, by first | exact k1 | exact fun _ => rfl, by first | exact k2 | exact fun _ => rfl, by first | exact k3 | exact fun _ => rfl⟩, gn, hz, hfn⟩
          · have pre : l4 = false ∧ l0 = true ∧ l1 = true ∧ l2 = true ∧ l3 = true ∧ gA l0 l1 l2 l3 true = true := by
              clear hc k0 k1 k2 k3 hz hfn
              revert hG hi
              revert l0 l1 l2 l3 l4
              decide +kernel
            obtain ⟨rfl, rfl, rfl, rfl, rfl, gn⟩ := pre
            refine wpOpIn_step rfl (fun K hK => ?_)
            obtain rfl := k0 rfl
            obtain rfl := k1 rfl
            obtain rfl := k2 rfl
            obtain rfl := k3 rfl
            have bb := hz rfl
            have cw := (AGV.out.next bb).b7.cell
            have fw := (AGV.out.next bb).b7.frozen
            go_simp
            exact hK _ _ ⟨_, _, _, _, _, _, _, _, _, rfl, by (simp at hc ⊢; first | done | omega), rfl, ⟨by first | exact k0 | exact fun _ => rfl, by first | exact k1 | exact fun _ => rfl, by first | exact k2 | exact fun _ => rfl, by first | exact k3 | exact fun _ => rfl⟩, gn, by simp, fun _ => ⟨_, bb, rfl⟩⟩
          · omega
    · obtain rfl : n = k := by omega
      have d0 : decide ((n : Int) < n) = false := decide_eq_false (by omega)
      go_wp2_with (go_at_call 65; refine ((callsIn_wide (n := 5)).1 (backward_in Fence.wide 5 trivial rfl A mo co _)).mono ?_; rintro e w' ⟨rfl, rfl⟩)
      obtain ⟨V0, hV0⟩ : ∃ V0 : World, V0 = wr := ⟨_, rfl⟩
      rw [← hV0] at AG ⊢
      obtain ⟨OU, hOU⟩ : ∃ OU, outs l o n = OU := ⟨_, rfl⟩
      rw [hOU] at AG HAG
      clear hV0 hOU
      obtain ⟨W0, hW0⟩ : ∃ W0 : World, W0 = V0.alloc (.cells #[.slice A mo co] 30) := ⟨_, rfl⟩
      have hB01 : Below V0.heap.size V0 W0 := by rw [hW0]; exact bel_alloc (Below.refl _ _) _
      have sz1 : V0.heap.size < W0.heap.size := by rw [hW0]; simp
      have bP : Boxed W0 V0.heap.size 30 (.slice A mo co) := by rw [hW0]; exact Boxed.new V0 _ _
      have AG0 := AG.out.next hB01
      have sz0 := AG.out.size
      have hlt0 : 0 < o.length → ∀ a, A = some a → a.block < w.heap.size := fun h a e => by
        obtain ⟨b, o', e', q⟩ := HRO.out 0 _ (List.getElem?_eq_getElem h)
        rw [e] at e'; injection e' with e'; subst e'
        exact q.lt
      obtain ⟨X, hXd⟩ : ∃ X : Nat → Prop, X = fun b => b = V0.heap.size ∨ b < w.heap.size := ⟨_, rfl⟩
      have hX : ∀ b, X b → b < W0.heap.size := fun b hb => by rw [hXd] at hb; have hb : b = V0.heap.size ∨ b < w.heap.size := hb; omega
      have HS := Lib.hid (backward_stops Fence.wide (fun _ => trivial) rfl 5 (by omega) V0.heap.size A mo co o HLO.out hmo X (by rw [hXd]; exact .inl rfl) (fun h a e => by rw [hXd]; exact .inr (hlt0 h a e)) W0 hX bP.cell (HRO.out.below AG0.bel))
      have hX1 : ¬ X (w.heap.size + 1) := fun h => by rw [hXd] at h; have h : w.heap.size + 1 = V0.heap.size ∨ w.heap.size + 1 < w.heap.size := h; omega
      have hX2 : ¬ X (w.heap.size + 1 + 1) := fun h => by rw [hXd] at h; have h : w.heap.size + 1 + 1 = V0.heap.size ∨ w.heap.size + 1 + 1 < w.heap.size := h; omega
      clear hXd bP hlt0 hB01
      have AG1 := Lib.hid AG0
      clear AG AG0
      rw [← hW0]
      clear hW0
      refine (wpIn_wide (n := 6)).1 ?_
      refine wpIn_rangeFunc_ownG rfl (by omega) (gf := 78) (lb := #[.pointer (some ⟨V0.heap.size, 0, none⟩)]) rfl trivial (enters_of Try.func78 (by kernel_rfl) rfl)
        HS.out KX.trans (KX.put hX) (Below.refl _ _) (fun _ => rfl)
        (fun pre W => (Ag w W (.slice Al n cl) (minE l (OU ++ pre.map (gO o))) ∧ W0.heap.size ≤ W.heap.size) ∧ pas l OU (pre.map (gO o)))
        (fun cc pre W => ((Boxed W (w.heap.size + 1) 4 (.bool false) ∧ Below w.heap.size w W) ∧ (∃ is i, pre.map (gO o) = is ++ [i] ∧ minE l (OU ++ is) < (l.getD i c0).v)) ∧ cc = .ret)
        (OwnFrom.and (OwnFrom.and (ag_own (by omega) _ _) (fun s X Y row h hg hr => Nat.le_trans h hg.size)) (ownFrom_pure _ _))
        (fun cc => OwnFrom.and (OwnFrom.and (OwnFrom.and (Own.from (boxed_own _ _ _) _) (ownFrom_below (Nat.le_refl _) (by omega))) (ownFrom_pure _ _)) (ownFrom_pure _ _))
        ⟨⟨by rw [List.map_nil, List.append_nil]; exact AG1.out, Nat.le_refl _⟩, by rw [List.map_nil]; exact pas_nil _ _⟩
        (fun ix : Fin o.length => { tmps := #[.slice A mo co, .slice (some ⟨B, 0, none⟩) n n, .slice Al n cl, undef, undef, .pointer (some ⟨w.heap.size, 0, none⟩), .pointer (some ⟨w.heap.size + 1, 0, none⟩), .pointer (some ⟨w.heap.size + 1 + 1, 0, none⟩), u8, u9, undef, .int .i64 (o.getD ix.val 0), .slice Al n cl, .int .i64 (n : Nat), .int .i64 (n : Nat), .bool false, u16, u17, u18, u19, u20, u21, u22, u23, u24, u25, u26, u27, u28, .slice A mo co, .func (.func 78) #[] #[.pointer (some ⟨V0.heap.size, 0, none⟩)], .int .i64 (ix.val : Nat), .int .i64 (o.getD ix.val 0), undef, undef, undef, undef, undef, undef, undef, undef, undef, undef, undef, undef, undef, undef], defers := [] }) ?assign ?body ?done ?stop
      case assign =>
        intro lp ix W K hK
        unfold yA
        try simp only [] at hK ⊢
        generalize o.getD ix.val 0 = z at hK ⊢
        gi_wp2
        exact hK
      case body =>
        rintro lp pre ix V ⟨⟨ag, hsW⟩, hpas⟩ hlt
        have hio := HOI.out ix.val (by have := ix.isLt; have := HLO.out; omega)
        obtain ⟨y, hy⟩ : ∃ y : Nat, o.getD ix.val 0 = (y : Int) := ⟨(o.getD ix.val 0).toNat, by omega⟩
        have hgo : gO o ix = y := by unfold gO; rw [hy]; rfl
        rw [hy] at hio
        have hyn : y < n := by omega
        have y1 : (y : Int) < n := by omega
        have hyl : y < l.length := by rw [HL.out]; exact hyn
        obtain ⟨b, oo, rfl, hat⟩ := KC.at_ (HRL.out.below ag.bel) hyl
        have hmap : (pre ++ [ix]).map (gO o) = pre.map (gO o) ++ [y] := by rw [List.map_append, List.map_cons, List.map_nil, hgo]
        have MS := Lib.hid (minE_snoc l (OU ++ pre.map (gO o)) y)
        have PS := Lib.hid (fun h => pas_snoc (i := y) hpas h)
        obtain ⟨is, his⟩ : ∃ is, pre.map (gO o) = is := ⟨_, rfl⟩
        have HPX := Lib.hid hmap
        rw [his] at HPX MS PS ag
        obtain ⟨M, hM⟩ : ∃ M, minE l (OU ++ is) = M := ⟨_, rfl⟩
        have HMX := Lib.hid hM
        rw [hM] at ag MS PS
        obtain ⟨x, hx⟩ : ∃ x, l.getD y c0 = x := ⟨_, rfl⟩
        have HXX := Lib.hid hx
        rw [hx] at hat MS PS
        obtain ⟨E, hE⟩ : ∃ E, endV x = E := ⟨_, rfl⟩
        rw [hE] at MS
        have AGV := Lib.hid ag
        have ATV := Lib.hid hat
        have SZV := Lib.hid hsW
        have CE2 := fun (n : Nat) (W : World) => Lib.hid (show CallsIn (Fence.wide.inRound lp) n Try.prog 64 #[.agg #[.int .i64 x.t, .int .i64 x.i, .int .u8 x.k, .int .u64 x.p0, .int .u64 x.p1, .int .u64 x.p2, .int .u64 x.p3, .int .u64 x.p4, .int .u64 x.p5, .int .i64 x.v, .int .i64 x.u, .int .i64 x.a, .int .i64 x.s, .int .i64 x.re, .bool x.rf, .int .u64 x.rk, .int .u64 x.rv, .int .i64 x.rc]] W fun e w' => e = .returned (.int .i64 E) ∧ Below W.heap.size W w' from by rw [← hE]; exact (callsIn_wide (n := n)).2 (ending_any x W))
        have hf3 : (Fence.wide.inRound lp).fn 64 := trivial
        have hf4 : Fence.wide.fn 64 := trivial
        have c7 := ag.b7.cell
        have c5 := ag.b5.cell
        have c6 := ag.b6.cell
        have f6 := ag.b6.frozen
        have cv : V.cell? ⟨b, oo + y * 18 + 9, none⟩ = some (.int .i64 x.v) := hat 9 _ rfl
        have bO2 : Boxed V (w.heap.size + 1) 4 (.bool false) := ag.b6
        have BO2 := Lib.hid bO2
        have BEL2 := Lib.hid ag.bel
        have hmix : Try.prog.follows .mixedOrders = true := by kernel_rfl
        rw [hy]
        clear hy hio hgo hmap his hM hx hE ag hat hsW hpas bO2 HS hlt
        gi_wp2
        refine wpIn_mono (Q := fun e a' w' => e = .normal ∧ a' = { tmps := #[.slice A mo co, .slice (some ⟨B, 0, none⟩) n n, .slice (some ⟨b, oo, none⟩) n cl, undef, undef, .pointer (some ⟨w.heap.size, 0, none⟩), .pointer (some ⟨w.heap.size + 1, 0, none⟩), .pointer (some ⟨w.heap.size + 1 + 1, 0, none⟩), u8, u9, undef, .int .i64 (y : Nat), .slice (some ⟨b, oo, none⟩) n cl, .int .i64 (n : Nat), .int .i64 (n : Nat), .bool false, u16, u17, u18, u19, u20, u21, u22, u23, u24, u25, u26, u27, u28, .slice A mo co, .func (.func 78) #[] #[.pointer (some ⟨V0.heap.size, 0, none⟩)], .int .i64 (ix.val : Nat), .int .i64 (y : Nat), .int .i64 M, .slice (some ⟨b, oo, none⟩) n cl, .int .i64 (y : Nat), .pointer (some ⟨b, oo + y * 18, none⟩), .pointer (some ⟨b, oo + y * 18 + 9, none⟩), .int .i64 x.v, .bool (decide (M < x.v)), undef, undef, undef, undef, undef, undef, undef], defers := [] } ∧ w' = V.drew) ?_ ?_
        · gi_region_with_o (fail)
          all_goals gi_wp2
          all_goals exact ⟨rfl, rfl, rfl⟩
        rintro _ _ _ ⟨rfl, rfl, rfl⟩
        by_cases hv : M < x.v
        · have d0 : decide (M < x.v) = true := decide_eq_true hv
          gi_wp2
          refine ⟨keeps_draw ((KeepsOthers.setCell _ _ _).from _), ⟨⟨BO2.out.set _, bel_draw (BEL2.out.setCell (p := ⟨w.heap.size + 1, 0, none⟩) (by simp) _)⟩, is, y, HPX.out, by rw [HMX.out, HXX.out]; exact hv⟩, rfl⟩
        · have d0 : decide (M < x.v) = false := decide_eq_false hv
          obtain ⟨V1, hV1⟩ : ∃ V1 : World, V1 = V.drew := ⟨_, rfl⟩
          have b1' : Below V.heap.size V V1 := by rw [hV1]; exact bel_draw (Below.refl _ _)
          have AGV1 := Lib.hid (AGV.out.next b1')
          have ATV1 := Lib.hid (ATV.out.bel b1' ATV.out.lt)
          have BV1 := Lib.hid b1'
          have PS2 := Lib.hid (PS.out (by omega))
          rw [← hV1]
          clear hV1 c7 c5 c6 f6 cv b1' AGV ATV BO2 BEL2
          gi_wp2
          refine wpIn_region_any hmix ?_
          change wpAnyIn _ _ _ _ _ _ _ _ _ (World.drew _)
          refine any_inv (fun fuel listed a wv => ∃ (l0 l1 l2 l3 l4 l5 l6 l7 : Bool) (v0 v1 v2 v3 v4 v5 v6 : Value), listed = #[l0, l1, l2, l3, l4, l5, l6, l7] ∧ fuel = (if l0 = true then 0 else 1) + (if l1 = true then 0 else 1) + (if l2 = true then 0 else 1) + (if l3 = true then 0 else 1) + (if l4 = true then 0 else 1) + (if l5 = true then 0 else 1) + (if l6 = true then 0 else 1) + (if l7 = true then 0 else 1) ∧ a = { tmps := #[.slice A mo co, .slice (some ⟨B, 0, none⟩) n n, .slice (some ⟨b, oo, none⟩) n cl, undef, undef, .pointer (some ⟨w.heap.size, 0, none⟩), .pointer (some ⟨w.heap.size + 1, 0, none⟩), .pointer (some ⟨w.heap.size + 1 + 1, 0, none⟩), u8, u9, undef, .int .i64 (y : Nat), .slice (some ⟨b, oo, none⟩) n cl, .int .i64 (n : Nat), .int .i64 (n : Nat), .bool false, u16, u17, u18, u19, u20, u21, u22, u23, u24, u25, u26, u27, u28, .slice A mo co, .func (.func 78) #[] #[.pointer (some ⟨V0.heap.size, 0, none⟩)], .int .i64 (ix.val : Nat), .int .i64 (y : Nat), .int .i64 M, .slice (some ⟨b, oo, none⟩) n cl, .int .i64 (y : Nat), .pointer (some ⟨b, oo + y * 18, none⟩), .pointer (some ⟨b, oo + y * 18 + 9, none⟩), .int .i64 x.v, .bool false, v0, v1, v2, v3, v4, v5, v6], defers := [] } ∧ ((l0 = true → v0 = .int .i64 M) ∧ (l1 = true → v1 = .slice (some ⟨b, oo, none⟩) n cl) ∧ (l2 = true → v2 = .int .i64 (y : Nat)) ∧ (l3 = true → v3 = .pointer (some ⟨b, oo + y * 18, none⟩)) ∧ (l4 = true → v4 = .agg #[.int .i64 x.t, .int .i64 x.i, .int .u8 x.k, .int .u64 x.p0, .int .u64 x.p1, .int .u64 x.p2, .int .u64 x.p3, .int .u64 x.p4, .int .u64 x.p5, .int .i64 x.v, .int .i64 x.u, .int .i64 x.a, .int .i64 x.s, .int .i64 x.re, .bool x.rf, .int .u64 x.rk, .int .u64 x.rv, .int .i64 x.rc]) ∧ (l5 = true → v5 = .int .i64 E) ∧ (l6 = true → v6 = .int .i64 (min M E))) ∧ gC l0 l1 l2 l3 l4 l5 l6 l7 = true ∧ ((l7 = false → Below V1.heap.size V1 wv) ∧ (l7 = true → ∃ w1, Below V1.heap.size V1 w1 ∧ wv = w1.setCell ⟨w.heap.size + 1 + 1, 0, none⟩ (.int .i64 (min M E))))) ?fin ?zer ?stp _ _ _ _ ?ini
          case ini => exact ⟨false, false, false, false, false, false, false, false, undef, undef, undef, undef, undef, undef, undef, rfl, rfl, rfl, ⟨by simp, by simp, by simp, by simp, by simp, by simp, by simp⟩, rfl, fun _ => bel_draw (Below.refl _ _), by simp⟩
          case zer =>
            rintro listed a wv ⟨l0, l1, l2, l3, l4, l5, l6, l7, v0, v1, v2, v3, v4, v5, v6, rfl, hc, -, -, hG, -, -⟩
            revert hc hG
            revert l0 l1 l2 l3 l4 l5 l6 l7
            decide +kernel
          case fin =>
            rintro fuel listed a wv ⟨l0, l1, l2, l3, l4, l5, l6, l7, v0, v1, v2, v3, v4, v5, v6, rfl, hc, rfl, -, hG, -, hfn⟩ hr
            have hlz : l7 = true := by
              clear hc hfn
              revert hG hr
              revert l0 l1 l2 l3 l4 l5 l6 l7
              decide +kernel
            have HFP := Lib.hid (hfn hlz)
            clear hc hfn hlz hr hG
            obtain ⟨w1, b1, rfl⟩ := HFP.out
            have b2 : Below V.heap.size V w1 := BV1.out.trans (b1.mono BV1.out.size)
            have AGN := Lib.hid ((AGV1.out.next b1).put (min M E))
            have K1 := Lib.hid (keeps_below (B := W0.heap.size) b2)
            have X1 := Lib.hid ((KX.below (X := X) (n := V.heap.size) (fun q hq => Nat.lt_of_lt_of_le (hX q hq) SZV.out) b2).trans (KX.set (X := X) (W := w1) (b := w.heap.size + 1 + 1) (o := 0) (v := .int .i64 (min M E)) hX2))
            have S1 := Lib.hid (show W0.heap.size ≤ (w1.setCell ⟨w.heap.size + 1 + 1, 0, none⟩ (.int .i64 (min M E))).heap.size from by have := b2.size; have := SZV.out; simp; omega)
            clear b1 b2
            gi_wp2
            refine ⟨(K1.out).trans ((KeepsOthers.setCell _ _ _).from _), X1.out, ⟨?_, S1.out⟩, ?_⟩
            · rw [HPX.out, ← List.append_assoc, MS.out]; exact AGN.out
            · rw [HPX.out]; exact PS2.out
          case stp =>
            rintro fuel listed a wv ⟨l0, l1, l2, l3, l4, l5, l6, l7, v0, v1, v2, v3, v4, v5, v6, rfl, hc, rfl, ⟨k0, k1, k2, k3, k4, k5, k6⟩, hG, hz, hfn⟩ i hi
            have hib : i < 8 := by
              have := (List.mem_filter.1 hi).1
              simpa using this
            rcases i with _ | _ | _ | _ | _ | _ | _ | _ | i
            · have pre : l0 = false ∧ l6 = false ∧ l7 = false ∧ gC true l1 l2 l3 l4 l5 l6 l7 = true := by
                clear hc k0 k1 k2 k3 k4 k5 k6 hz hfn
                revert hG hi
                revert l0 l1 l2 l3 l4 l5 l6 l7
                decide +kernel
              obtain ⟨rfl, rfl, rfl, gn⟩ := pre
              refine wpOpIn_step rfl (fun K hK => ?_)
              have cw := (AGV1.out.next (hz rfl)).b7.cell
              go_simp
              exact hK _ _ ⟨_, _, _, _, _, _, _, _, _, _, _, _, _, _, _, rfl, by (simp at hc ⊢; first | done | omega), rfl, ⟨by first | exact k0 | exact fun _ => rfl, by first | exact k1 | exact fun _ => rfl, by first | exact k2 | exact fun _ => rfl, by first | exact k3 | exact fun _ => rfl, by first | exact k4 | exact fun _ => rfl, by first | exact k5 | exact fun _ => rfl, by first | exact k6 | exact fun _ => rfl⟩, gn, hz, hfn⟩
            · have pre : l1 = false ∧ l3 = false ∧ l4 = false ∧ l5 = false ∧ l6 = false ∧ l7 = false ∧ gC l0 true l2 l3 l4 l5 l6 l7 = true := by
                clear hc k0 k1 k2 k3 k4 k5 k6 hz hfn
                revert hG hi
                revert l0 l1 l2 l3 l4 l5 l6 l7
                decide +kernel
              obtain ⟨rfl, rfl, rfl, rfl, rfl, rfl, gn⟩ := pre
              refine wpOpIn_step rfl (fun K hK => ?_)
              have cw := (AGV1.out.next (hz rfl)).b5.cell
              go_simp
              exact hK _ _ ⟨_, _, _, _, _, _, _, _, _, _, _, _, _, _, _, rfl, by (simp at hc ⊢; first | done | omega), rfl, ⟨by first | exact k0 | exact fun _ => rfl, by first | exact k1 | exact fun _ => rfl, by first | exact k2 | exact fun _ => rfl, by first | exact k3 | exact fun _ => rfl, by first | exact k4 | exact fun _ => rfl, by first | exact k5 | exact fun _ => rfl, by first | exact k6 | exact fun _ => rfl⟩, gn, hz, hfn⟩
            · have pre : l2 = false ∧ l3 = false ∧ l4 = false ∧ l5 = false ∧ l6 = false ∧ l7 = false ∧ gC l0 l1 true l3 l4 l5 l6 l7 = true := by
                clear hc k0 k1 k2 k3 k4 k5 k6 hz hfn
                revert hG hi
                revert l0 l1 l2 l3 l4 l5 l6 l7
                decide +kernel
              obtain ⟨rfl, rfl, rfl, rfl, rfl, rfl, gn⟩ := pre
              refine wpOpIn_step rfl (fun K hK => ?_)
              go_simp
              exact hK _ _ ⟨_, _, _, _, _, _, _, _, _, _, _, _, _, _, _, rfl, by (simp at hc ⊢; first | done | omega), rfl, ⟨by first | exact k0 | exact fun _ => rfl, by first | exact k1 | exact fun _ => rfl, by first | exact k2 | exact fun _ => rfl, by first | exact k3 | exact fun _ => rfl, by first | exact k4 | exact fun _ => rfl, by first | exact k5 | exact fun _ => rfl, by first | exact k6 | exact fun _ => rfl⟩, gn, hz, hfn⟩
            · have pre : l3 = false ∧ l4 = false ∧ l5 = false ∧ l6 = false ∧ l7 = false ∧ l1 = true ∧ l2 = true ∧ gC l0 l1 l2 true l4 l5 l6 l7 = true := by
                clear hc k0 k1 k2 k3 k4 k5 k6 hz hfn
                revert hG hi
                revert l0 l1 l2 l3 l4 l5 l6 l7
                decide +kernel
              obtain ⟨rfl, rfl, rfl, rfl, rfl, rfl, rfl, gn⟩ := pre
              refine wpOpIn_step rfl (fun K hK => ?_)
              obtain rfl := k1 rfl
              obtain rfl := k2 rfl
              go_simp
              exact hK _ _ ⟨_, _, _, _, _, _, _, _, _, _, _, _, _, _, _, rfl, by (simp at hc ⊢; first | done | omega), rfl, ⟨by first | exact k0 | exact fun _ => rfl, by first | exact k1 | exact fun _ => rfl, by first | exact k2 | exact fun _ => rfl, by first | exact k3 | exact fun _ => rfl, by first | exact k4 | exact fun _ => rfl, by first | exact k5 | exact fun _ => rfl, by first | exact k6 | exact fun _ => rfl⟩, gn, hz, hfn⟩
            · have pre : l4 = false ∧ l5 = false ∧ l6 = false ∧ l7 = false ∧ l1 = true ∧ l2 = true ∧ l3 = true ∧ gC l0 l1 l2 l3 true l5 l6 l7 = true := by
                clear hc k0 k1 k2 k3 k4 k5 k6 hz hfn
                revert hG hi
                revert l0 l1 l2 l3 l4 l5 l6 l7
                decide +kernel
              obtain ⟨rfl, rfl, rfl, rfl, rfl, rfl, rfl, gn⟩ := pre
              refine wpOpIn_step rfl (fun K hK => ?_)
              obtain rfl := k1 rfl
              obtain rfl := k2 rfl
              obtain rfl := k3 rfl
              refine ldX rfl _ rfl b (oo + y * 18) rfl x (ATV1.out.bel (hz rfl) ATV1.out.lt) ?_
              exact hK _ _ ⟨_, _, _, _, _, _, _, _, _, _, _, _, _, _, _, rfl, by (simp at hc ⊢; first | done | omega), rfl, ⟨by first | exact k0 | exact fun _ => rfl, by first | exact k1 | exact fun _ => rfl, by first | exact k2 | exact fun _ => rfl, by first | exact k3 | exact fun _ => rfl, by first | exact k4 | exact fun _ => rfl, by first | exact k5 | exact fun _ => rfl, by first | exact k6 | exact fun _ => rfl⟩, gn, hz, hfn⟩
            · have pre : l5 = false ∧ l6 = false ∧ l7 = false ∧ l1 = true ∧ l2 = true ∧ l3 = true ∧ l4 = true ∧ gC l0 l1 l2 l3 l4 true l6 l7 = true := by
                clear hc k0 k1 k2 k3 k4 k5 k6 hz hfn
                revert hG hi
                revert l0 l1 l2 l3 l4 l5 l6 l7
                decide +kernel
              obtain ⟨rfl, rfl, rfl, rfl, rfl, rfl, rfl, gn⟩ := pre
              refine wpOpIn_step rfl (fun K hK => ?_)
              obtain rfl := k1 rfl
              obtain rfl := k2 rfl
              obtain rfl := k3 rfl
              obtain rfl := k4 rfl
              have bb := hz rfl
              go_simp
              refine (CE2 _ _).out.mono ?_
              rintro e w7 ⟨rfl, b7⟩
              exact hK _ _ ⟨_, _, _, _, _, _, _, _, _, _, _, _, _, _, _, rfl, by (simp at hc ⊢; first | done | omega), rfl, ⟨by first | exact k0 | exact fun _ => rfl, by first | exact k1 | exact fun _ => rfl, by first | exact k2 | exact fun _ => rfl, by first | exact k3 | exact fun _ => rfl, by first | exact k4 | exact fun _ => rfl, by first | exact k5 | exact fun _ => rfl, by first | exact k6 | exact fun _ => rfl⟩, gn, fun _ => bb.trans (b7.mono bb.size), by simp⟩
            · have pre : l6 = false ∧ l7 = false ∧ l0 = true ∧ l1 = true ∧ l2 = true ∧ l3 = true ∧ l4 = true ∧ l5 = true ∧ gC l0 l1 l2 l3 l4 l5 true l7 = true := by
                clear hc k0 k1 k2 k3 k4 k5 k6 hz hfn
                revert hG hi
                revert l0 l1 l2 l3 l4 l5 l6 l7
                decide +kernel
              obtain ⟨rfl, rfl, rfl, rfl, rfl, rfl, rfl, rfl, gn⟩ := pre
              refine wpOpIn_step rfl (fun K hK => ?_)
              obtain rfl := k0 rfl
              obtain rfl := k1 rfl
              obtain rfl := k2 rfl
              obtain rfl := k3 rfl
              obtain rfl := k4 rfl
              obtain rfl := k5 rfl
              go_simp
              exact hK _ _ ⟨_, _, _, _, _, _, _, _, _, _, _, _, _, _, _, rfl, by (simp at hc ⊢; first | done | omega), rfl, ⟨by first | exact k0 | exact fun _ => rfl, by first | exact k1 | exact fun _ => rfl, by first | exact k2 | exact fun _ => rfl, by first | exact k3 | exact fun _ => rfl, by first | exact k4 | exact fun _ => rfl, by first | exact k5 | exact fun _ => rfl, by first | exact k6 | exact fun _ => rfl⟩, gn, hz, hfn⟩
            · have pre : l7 = false ∧ l0 = true ∧ l1 = true ∧ l2 = true ∧ l3 = true ∧ l4 = true ∧ l5 = true ∧ l6 = true ∧ gC l0 l1 l2 l3 l4 l5 l6 true = true := by
                clear hc k0 k1 k2 k3 k4 k5 k6 hz hfn
                revert hG hi
                revert l0 l1 l2 l3 l4 l5 l6 l7
                decide +kernel
              obtain ⟨rfl, rfl, rfl, rfl, rfl, rfl, rfl, rfl, gn⟩ := pre
              refine wpOpIn_step rfl (fun K hK => ?_)
              obtain rfl := k0 rfl
              obtain rfl := k1 rfl
              obtain rfl := k2 rfl
              obtain rfl := k3 rfl
              obtain rfl := k4 rfl
              obtain rfl := k5 rfl
              obtain rfl := k6 rfl
              have bb := hz rfl
              have cw := (AGV1.out.next bb).b7.cell
              have fw := (AGV1.out.next bb).b7.frozen
              go_simp
              exact hK _ _ ⟨_, _, _, _, _, _, _, _, _, _, _, _, _, _, _, rfl, by (simp at hc ⊢; first | done | omega), rfl, ⟨by first | exact k0 | exact fun _ => rfl, by first | exact k1 | exact fun _ => rfl, by first | exact k2 | exact fun _ => rfl, by first | exact k3 | exact fun _ => rfl, by first | exact k4 | exact fun _ => rfl, by first | exact k5 | exact fun _ => rfl, by first | exact k6 | exact fun _ => rfl⟩, gn, by simp, fun _ => ⟨_, bb, rfl⟩⟩
            · omega
      case stop =>
        rintro D cc pre W hD hpre ⟨⟨⟨hr, hB⟩, is, i, hm, hx⟩, rfl⟩ hK
        have HV := Lib.hid (show agB l o = false by
          cases hag : agB l o with
          | false => rfl
          | true =>
            obtain ⟨t, ht⟩ := hpre
            exact absurd (HAG.out.1 hag) (pas_not (is := is) (i := i) (by rw [← hm]; unfold bO; rw [← ht, List.map_append]; exact List.prefix_append _ _) hx))
        clear hx hpre hm
        gi_wp2
        refine ⟨by simp, .inl ⟨_, _, rfl, run_takeDeferred hK, ?_⟩⟩
        exact ⟨_, res_one rfl rfl (load_bool (boxed_put hr hK rfl)), by rw [HV.out], hB.trans (belowK_b (w := w) (Nat.le_refl _) W D _ _ (by omega) hK rfl rfl)⟩
      case done =>
        rintro D ys W hD rfl ⟨⟨ag, hsW⟩, hp⟩ hK
        have HV := Lib.hid (show agB l o = true from HAG.out.2 hp)
        have hr := ag.b6
        have hB := ag.bel
        have hcr := hr.cell
        have hfr := hr.frozen
        clear hp ag
        go_wp2_with fail
        have hr2 : Boxed (W.setCell ⟨w.heap.size + 1, 0, none⟩ (.bool true)) (w.heap.size + 1) 4 (.bool true) := hr.set _
        have hB2 : Below w.heap.size w (W.setCell ⟨w.heap.size + 1, 0, none⟩ (.bool true)) := hB.setCell (p := ⟨w.heap.size + 1, 0, none⟩) (by simp) _
        have hK2 : (W.setCell ⟨w.heap.size + 1, 0, none⟩ (.bool true)).heap[D]? = some (.deferred (some [])) := (Below.heap_setCell _ _ _ _ (by show D ≠ w.heap.size + 1; omega)).trans hK
        refine ⟨by simp, .inl ⟨_, _, rfl, run_takeDeferred hK2, ?_⟩⟩
        exact ⟨_, res_one rfl rfl (load_bool (boxed_put hr2 hK2 rfl)), by rw [HV.out], hB2.trans (belowK_b (w := w) (Nat.le_refl _) _ D _ _ (by omega) hK2 rfl rfl)⟩
end Hi
end Go.Proofs.Ytgfhfcjjodcgdaa
