/- Expand of package picks: contract of the translated code. Conditions: those of each lemma. -/
import Derived.Test.YtnoggggbghkgkaaPkF
import Derived.Maps.OwnIn
namespace Go.Proofs.Ytnoggggbghkgkaa
open Go.RowKit Go.Shelf Go.Sort
set_option linter.unusedVariables false
set_option linter.unusedSimpArgs false
attribute [local go_sem] Oper.semAt_some
namespace Pk
open Dm (RdK BdI bel_alloc bel_trans cell_lt flatI info info_parts row_rd app1 addr_lit)
theorem head_run (b o : Nat) : ∀ w : World, (Instr.sliceAt 22 (.slice (some ⟨b, o, none⟩) 2 2) none (some (.int .i64 1)) none).run Try.prog w = .ok (.slice (some ⟨b, o, none⟩) 1 2) w := fun w => by
  have u : Try.prog.underlying 22 = some (.slice (Try.prog.elem 22)) := by kernel_rfl
  simp [go_sem, Instr.sliceBounds, sliced]
/-- what Expand returns -/
def ExPost (l : List Int) (w : World) (e : Ending) (w' : World) : Prop :=
  (if fcE l = 0 then ∃ v, e = .returned (.tuple #[v, .int .i64 0]) ∧ w'.ownsRow w.heap.size 3 1 v (exN l (l.length / 2)).length (flatI (exN l (l.length / 2))) else e = .returned (.tuple #[.slice none 0 0, .int .i64 (fcE l)])) ∧ Below w.heap.size w w'
theorem exF_len {k : Nat} {l : List Int} (h : ∀ x : Fin k, cnt l x.val ≤ 65536) : ∀ pre : List (Fin k), (exF l pre).length ≤ pre.length * 65536
  | [] => by simp [exF]
  | x :: pre => by
    have ih := exF_len h pre
    have hx := h x
    have : exF l (x :: pre) = List.replicate (cnt l x.val).toNat (pck l x.val) ++ exF l pre := rfl
    rw [this, List.length_append, List.length_replicate, List.length_cons, Nat.succ_mul]
    omega
theorem app_fin {V w1 w2 : World} {Bo base n q : Nat} {v v' : Value} {xs ys : List Value} (hv : Boxed V Bo 22 v) (hrow : V.ownsRow base 3 1 v n xs) (bb : Below V.heap.size V w1) (r1 : w2.ownsRow base 3 1 v' (n + q) (xs ++ ys)) (r2 : w1.grownBy w2 v.ownBlock) (hbo : Bo < base) :
    Boxed w2 Bo 22 v ∧ (∀ B, KeepsFrom B V (w2.setCell ⟨Bo, 0, none⟩ v')) ∧ Boxed (w2.setCell ⟨Bo, 0, none⟩ v') Bo 22 v' ∧ (w2.setCell ⟨Bo, 0, none⟩ v').ownsRow base 3 1 v' (n + q) (xs ++ ys) ∧ (∀ N, N ≤ Bo → Below N V (w2.setCell ⟨Bo, 0, none⟩ v')) ∧ (∀ X : Nat → Prop, ¬ X Bo → (∀ b, X b → b < base ∧ b < V.heap.size) → KX X V (w2.setCell ⟨Bo, 0, none⟩ v')) := by
  have blk : ∀ k, k < V.heap.size → v.ownBlock ≠ some k → w2.heap[k]? = V.heap[k]? := fun k hk hn => (r2.block k (Nat.lt_of_lt_of_le hk bb.size) (fun e => hn e.symm)).trans (bb.block k hk)
  have hne : v.ownBlock ≠ some Bo := fun e => by have := (hrow.lt Bo e).1; omega
  have hB : Boxed w2 Bo 22 v := (blk Bo hv.lt hne).trans hv
  have hsz : V.heap.size ≤ w2.heap.size := Nat.le_trans bb.size r2.size
  have bel : ∀ N, N ≤ Bo → Below N V w2 := fun N hN => ⟨r2.os.trans bb.os, r2.tape.trans bb.tape, r2.output.trans bb.output, hsz, fun k hk => blk k (Nat.lt_trans (Nat.lt_of_lt_of_le hk hN) hv.lt) (fun e => by have := (hrow.lt k e).1; omega)⟩
  refine ⟨hB, fun B => ⟨by simpa using hsz, fun k o _ hk ho => ?_⟩, hB.set _, ?_, fun N hN => (bel N hN).setCell (p := ⟨Bo, 0, none⟩) hN _, fun X hX hXb b hb => ?_⟩
  · have hkV : k < V.heap.size := (Array.getElem?_eq_some_iff.1 hk).1
    have h1 : k ≠ Bo := fun e => by subst e; rw [show V.heap[k]? = _ from hv] at hk; cases hk; cases ho
    have h2 : v.ownBlock ≠ some k := fun e => by
      rcases hrow.2 with ⟨rfl, _⟩ | ⟨g, cap, cur, rfl, _, hgb, _⟩
      · cases e
      · have : g = k := by simpa [Value.ownBlock] using e
        subst this
        rw [hgb] at hk; cases hk; cases ho
    rw [Below.heap_setCell _ _ _ _ (by show k ≠ Bo; exact h1), blk k hkV h2]
    exact hk
  · exact row_kept r1 fun g hg => Below.heap_setCell _ _ _ _ (by have := (r1.lt g hg).1; show g ≠ Bo; omega)
  · have := hXb b hb
    rw [Below.heap_setCell _ _ _ _ (by show b ≠ Bo; intro e; subst e; exact hX hb)]
    exact blk b this.2 (fun e => by have := (hrow.lt b e).1; omega)
section
variable {F : Fence} {n : Nat} {P : Program} {md : Region.Mode} {ops : Array Oper} {Q : Exit → Act → World → Prop}
/-- a region in any order, by what holds after each set of operations -/
theorem any_inv (I : Nat → Array Bool → Act → World → Prop)
    (h0 : ∀ fuel listed a w, I fuel listed a w → Region.ready md ops listed = [] → Q .normal a w)
    (hz : ∀ listed a w, I 0 listed a w → Region.ready md ops listed = [])
    (hs : ∀ fuel listed a w, I (fuel + 1) listed a w → ∀ i ∈ Region.ready md ops listed, wpOpIn F n P ops Q i (I fuel (listed.setIfInBounds i true)) a w) :
    ∀ (fuel : Nat) (listed : Array Bool) (a : Act) (w : World), I fuel listed a w → wpAnyIn F n P md ops Q fuel listed a w
  | 0, listed, a, w, h => ⟨hz _ _ _ h, h0 _ _ _ _ h (hz _ _ _ h)⟩
  | fuel + 1, listed, a, w, h => ⟨h0 _ _ _ _ h, fun i hi => wpOpIn_mono (fun a w h => any_inv I h0 hz hs fuel _ a w h) (hs _ _ _ _ h i hi)⟩
end
/-- an append as one step of a region in a fence -/
theorem stepX {F : Fence} {nF : Nat} {ops : Array Oper} {o : Oper} {a : Act} {w : World} {K : Act → World → Prop} {Q : Exit → Act → World → Prop} {E : Prop} (hgd : o.guard = none) (s x : Operand)
    (ho : o.op = .call { callee := .builtin .append, args := #[s, x], argTypes := #[22, 22] }) (base : Nat) (v : Value) (n : Nat) (xs : List Value) (hs : a.eval s = v) (hown : w.ownsRow base 3 1 v n xs)
    (ad : Addr) (m c : Nat) (news : List Value) (hx : a.eval x = .slice (some ad) m c) (hl : news.length = m * 1) (hnews : ∀ j u, news[j]? = some u → w.cell? (ad.add j) = some u) (h1 : ∀ u ∈ news, u.oneCell' = true)
    (h63 : n + m ≤ maxLen) (hbytes : (n + m) * 8 ≤ 140737488355328) (hbase : base ≤ w.heap.size)
    (h : ∀ v' w', w'.ownsRow base 3 1 v' (n + m) (xs ++ news) → w.grownBy w' v.ownBlock → K (a.put o.dst v') w') :
    if Region.wanted o (yielded ops a.tmps) = true then Oper.wpIn F nF Try.prog o a w K Q else E := by
  have hw : Region.wanted o (yielded ops a.tmps) = true := by simp [Region.wanted, hgd]
  rw [if_pos hw]
  obtain ⟨i0, hi, hz0, hz1, hz2⟩ := info_parts info
  obtain ⟨v', w', hr, h2, h3, _⟩ := run_append_own (P := Try.prog) w base 22 o.type 3 i0 (.int .i64 0) 1 8 Try.underlying22 hi hz0 hz1 hz2 rfl (by omega) v n xs hown ad m c news hl hnews h1 h63 hbytes hbase
  unfold Oper.wpIn
  refine ⟨by simp [Oper.about, ho, resolve, Target.leads, Sem.run_pure], ?_⟩
  rw [Oper.semAt_plain F _ _ (by rw [ho]; intro c hc'; cases hc')]
  simp [execOp, ho, resolve, invoke, builtin, hs, hx, hr, Result.andThen]
  exact h _ _ h2 h3
theorem row_slice {w : World} {base n : Nat} {E : TypeId} {sz : Nat} {v : Value} {xs : List Value} (h : w.ownsRow base E sz v n xs) : ∃ A m c, v = .slice A m c := by
  rcases h.2 with ⟨rfl, _⟩ | ⟨g, cap, cur, rfl, _⟩
  · exact ⟨_, _, _, rfl⟩
  · exact ⟨_, _, _, rfl⟩
/-- the world behind the copies, behind the append, behind the store -/
def OwP (V : World) (p : Int) (q : Nat) (w : World) : Prop := w.ownsRow V.heap.size 3 1 (.slice (some ⟨V.heap.size, 0, none⟩) q q) q (flatI (List.replicate q p)) ∧ Below V.heap.size V w
def ApP (V : World) (Bo : Nat) (L : List Int) (p : Int) (q : Nat) (v : Value) (w : World) (u : Value) : Prop := ∃ w1, Below V.heap.size V w1 ∧ w.ownsRow (Bo + 3) 3 1 u (L.length + q) (flatI L ++ flatI (List.replicate q p)) ∧ w1.grownBy w v.ownBlock
def FnP (V : World) (Bo : Nat) (L : List Int) (p : Int) (q : Nat) (w : World) : Prop := ∃ v', (∀ B, KeepsFrom B V w) ∧ Boxed w Bo 22 v' ∧ w.ownsRow (Bo + 3) 3 1 v' (L.length + q) (flatI L ++ flatI (List.replicate q p)) ∧ (∀ N, N ≤ Bo → Below N V w) ∧ (∀ X : Nat → Prop, ¬ X Bo → (∀ b, X b → b < Bo + 3 ∧ b < V.heap.size) → KX X V w)
theorem rep_src {U : World} {g base q c : Nat} {p : Int} (h : U.ownsRow base 3 1 (.slice (some ⟨g, 0, none⟩) q c) q (flatI (List.replicate q p))) : ∀ j u, (flatI (List.replicate q p))[j]? = some u → U.cell? (Addr.add ⟨g, 0, none⟩ j) = some u := fun j u hj => by
  have hjq : j < q := by have := (List.getElem?_eq_some_iff.1 hj).1; simpa [flatI] using this
  rw [addr_lit, Nat.zero_add, h.cellAt _ (by omega)]
  exact hj
set_option maxRecDepth 100000 in
set_option maxHeartbeats 4000000 in
theorem expand_in (F : Fence) (hF : ∀ f, F.fn f) (hro : F.round = none) (hwide : ∀ {n g : Nat} {args : Array Value} {w : World} {R : Ending → World → Prop}, Calls Try.prog g args w R → CallsIn F n Try.prog g args w R) (n : Nat) (hn : 5 ≤ n) (A : Option Addr) (m c : Nat) (xs : List Int) (hl : xs.length = m) (hm : m ≤ 2000) (hmc : m ≤ c) (hcx : c ≤ 9223372036854775807) (hb : BdI xs) (w : World) (hrd : RdK .i64 w A xs) :
    CallsIn F n Try.prog 29 #[.slice A m c] w (ExPost xs w) := by
  have h1 : 1 ≤ n := by omega
  have hf := hF 45
  have hf1 := hF 46
  have CF := Lib.hid (fitsCounts_in F hF hro (n - 1) (by omega) A m c xs hl hmc hcx hb w hrd)
  by_cases h0 : fcE xs = 0
  · have HP := Lib.hid (show ∀ e w', ExPost xs w e w' ↔ (∃ v, e = .returned (.tuple #[v, .int .i64 0]) ∧ w'.ownsRow w.heap.size 3 1 v (exN xs (xs.length / 2)).length (flatI (exN xs (xs.length / 2)))) ∧ Below w.heap.size w w' from fun e w' => by unfold ExPost; rw [if_pos h0])
    obtain ⟨hev, hcnt⟩ := fcE_zero h0
    rw [h0] at CF
    obtain ⟨k, hk⟩ : ∃ k, 2 * k = m := ⟨m / 2, by omega⟩
    have hkl : 2 * k = xs.length := by omega
    have hk2 : xs.length / 2 = k := by omega
    rw [hk2] at HP hcnt
    have hsm : ∀ j, j ≤ k → 0 ≤ sm xs j := fun j => by
      induction j with
      | zero => intro _; exact Int.le_refl _
      | succ j ih => intro h; have a := ih (by omega); have b := (hcnt j (by omega)).1; rw [sm]; omega
    have hbd : ∀ x : Fin k, 0 ≤ cnt xs x.val ∧ cnt xs x.val ≤ 65536 := fun x => ⟨(hcnt x.val x.isLt).1, by have := (hcnt x.val x.isLt).2; have := hsm x.val (by have := x.isLt; omega); omega⟩
    have HLN := Lib.hid (exF_len (fun x => (hbd x).2))
    obtain ⟨b, o, hA⟩ : ∃ b o, 0 < k → A = some ⟨b, o, none⟩ := by
      by_cases h0 : 0 < k
      · obtain ⟨b, o, e, _⟩ := hrd 0 (by omega)
        exact ⟨b, o, fun _ => e⟩
      · exact ⟨0, 0, fun h => absurd h h0⟩
    have PC := fun W (hB : Below w.heap.size w W) (x : Fin k) => Lib.hid (pair_cells hkl hA hrd hB x)
    have hbw : 0 < k → b < w.heap.size := fun h => by
      obtain ⟨b', o', e, c'⟩ := hrd 0 (by omega)
      rw [hA h] at e
      cases e
      exact cell_lt c'
    have HA := Lib.hid hA
    have HBW := Lib.hid hbw
    clear hA hrd hl hb h0 hcnt hsm hbw
    refine callsIn_of_wp_marks Try.func29 rfl (hF _) ?_ hro
    simp only [Try.ntmps29, List.size_toArray, List.length_cons, List.length_nil, Nat.reduceAdd, Nat.reduceSub, Array.replicate_succ, Array.replicate_zero, List.push_toArray, List.append_toArray, List.nil_append, List.cons_append]
    gi_wp2_with (gi_at_call 45; refine CF.out.mono ?_; rintro e W ⟨rfl, hB⟩)
    have hwW := hB.size
    obtain ⟨W0, hW0⟩ : ∃ W0 : World, W0 = ((W.alloc (.cells #[.slice none 0 0] 22)).alloc (.cells #[.slice A m c] 22)).alloc (.cells #[.int .i64 2] 3) := ⟨_, rfl⟩
    have hsz : W0.heap.size = W.heap.size + 3 := by rw [hW0]; simp
    have hB01 : Below W.heap.size W W0 := by rw [hW0]; exact bel_alloc (bel_alloc (bel_alloc (Below.refl _ _) _) _) _
    have hB0 : Below w.heap.size w W0 := hB.trans (hB01.mono hwW)
    have bO : Boxed W0 W.heap.size 22 (.slice none 0 0) := by rw [hW0]; exact ((Boxed.new W _ _).alloc _).alloc _
    have bS : Boxed W0 (W.heap.size + 1) 22 (.slice A m c) := by
      rw [hW0]
      have := (Boxed.new (W.alloc (.cells #[.slice none 0 0] 22)) 22 (.slice A m c)).alloc (.cells #[.int .i64 2] 3)
      rwa [World.size_alloc] at this
    have bN : Boxed W0 (W.heap.size + 2) 3 (.int .i64 2) := by
      rw [hW0]
      have := Boxed.new ((W.alloc (.cells #[.slice none 0 0] 22)).alloc (.cells #[.slice A m c] 22)) 3 (.int .i64 2)
      rwa [World.size_alloc, World.size_alloc] at this
    have hX : ∀ b, (fun b => b = W.heap.size + 1 ∨ b = W.heap.size + 2) b → b < W0.heap.size := fun b hb => by
      have hb : b = W.heap.size + 1 ∨ b = W.heap.size + 2 := hb
      omega
    have HS := Lib.hid (chunk_stops' F hF hro (n - 1) (by omega) (W.heap.size + 1) (W.heap.size + 2) b o k m c hk A HA.out hmc hcx (fun b => b = W.heap.size + 1 ∨ b = W.heap.size + 2) (.inl rfl) (.inr rfl) W0 hX bS.cell bN.cell)
    gi_wp2_with (gi_at_call 46; refine (chunk_in F (n - 1) hf1 hro A m c _).mono ?_; rintro e w' ⟨rfl, rfl⟩)
    rw [← hW0]
    clear hW0
    refine wpIn_rangeFunc_ownG hro h1 (gf := 50) (lb := #[.pointer (some ⟨W.heap.size + 1, 0, none⟩), .pointer (some ⟨W.heap.size + 2, 0, none⟩)]) rfl (hF _) (enters_of Try.func50 (by kernel_rfl) rfl)
      HS.out KX.trans (KX.put hX) (Below.refl _ _) (fun _ => rfl)
      (fun pre V => (∃ v, Boxed V W.heap.size 22 v ∧ V.ownsRow (W.heap.size + 3) 3 1 v (exF xs pre).length ((exF xs pre).map (Value.int .i64)) ∧ True) ∧ (Below w.heap.size w V ∧ Below W.heap.size W0 V))
      (fun _ _ _ => False)
      (OwnFrom.and (Own.from (holdsRow_own (W.heap.size + 3) W.heap.size 22 3 1 (fun pre => (exF xs pre).length) (fun pre => (exF xs pre).map (Value.int .i64)) (fun pre v => True)) _) (OwnFrom.and (ownFrom_below (Nat.le_refl _) (by omega)) (ownFrom_below (by omega) (by omega))))
      (fun _ _ _ _ _ hs _ _ => hs)
      ⟨⟨_, bO, World.ownsRow_nil _ _ _ _, trivial⟩, hB0, Below.refl _ _⟩
      (fun x => { tmps := #[.slice A m c, undef, .slice none 0 0, .int .i64 0, .int .i64 0, .pointer (some ⟨W.heap.size, 0, none⟩), .slice (some ⟨b, o + 2 * x.val, none⟩) 2 2, .slice A m c, .int .i64 0, .int .i64 0, .bool false, undef, .slice A m c, .func (.func 50) #[] #[.pointer (some ⟨W.heap.size + 1, 0, none⟩), .pointer (some ⟨W.heap.size + 2, 0, none⟩)], .slice (some ⟨b, o + 2 * x.val, none⟩) 2 2, undef, undef, undef, undef, undef, undef, undef, undef, undef], defers := [] }) ?assign ?body ?done ?stop
    case assign =>
      intro l x V K hK
      gi_wp2
      exact hK
    case body =>
      rintro l pre x V ⟨⟨v, hv, hrow, _⟩, hVB, hVW⟩ hlt
      have hc := hv.cell
      have hfz := hv.frozen
      obtain ⟨c0, c1⟩ := (PC V hVB x).out
      obtain ⟨q1, q2⟩ := hbd x
      have hlp := HLN.out pre
      have hlp2 : pre.length ≤ 1000 := by simp at hlt; omega
      have HEX := Lib.hid (exF_snoc xs pre x)
      obtain ⟨q, hq⟩ : ∃ q : Nat, cnt xs x.val = q := ⟨(cnt xs x.val).toNat, by omega⟩
      rw [hq] at c1 q1 q2 HEX
      rw [Int.toNat_natCast] at HEX
      have hmix : Try.prog.follows .mixedOrders = true := by kernel_rfl
      have R1 := head_run b (o + 2 * x.val)
      have n2 : 1 ≤ n - 1 - 1 := by omega
      have hf2 : (F.inRound l).fn 47 := hF _
      obtain ⟨p, hp⟩ : ∃ p, pck xs x.val = p := ⟨_, rfl⟩
      rw [hp] at c0 HEX
      have CR := fun (n : Nat) => Lib.hid (show CallsIn (F.inRound l) n Try.prog 47 #[.slice (some ⟨b, o + 2 * x.val, none⟩) 1 2, .int .i64 q] V.drew fun e w' => e = .returned (.slice (some ⟨V.heap.size, 0, none⟩) q q) ∧ w'.ownsRow V.heap.size 3 1 (.slice (some ⟨V.heap.size, 0, none⟩) q q) q (flatI (List.replicate q p)) ∧ Below V.heap.size V.drew w' from hwide (n := n) (repeat_any b (o + 2 * x.val) 2 q p (by omega) V.drew c0))
      have hb0 := HBW.out (by have := x.isLt; omega)
      clear hq PC hbd HLN hp
      generalize exF xs pre = L at *
      gi_wp2
      have HV := Lib.hid hv
      have HR := Lib.hid hrow
      obtain ⟨i0, hi, hz0, hz1, hz2⟩ := info_parts info
      have hi := Lib.hid hi
      have hz0 := Lib.hid hz0
      have hz1 := Lib.hid hz1
      have hz2 := Lib.hid hz2
      have hszV : W.heap.size + 3 ≤ V.heap.size := by have := hVW.size; omega
      have hc0 := hc
      have hWV : W.heap.size < V.heap.size := hv.lt
      have hxk : KX (fun b => b = W.heap.size + 1 ∨ b = W.heap.size + 2) V V := KX.refl _ _
      clear hv hrow
      gi_wp2
      refine wpIn_region_any hmix ?_
      change wpAnyIn _ _ _ _ _ _ _ _ _ (World.drew _)
      refine any_inv (fun fuel listed a w => ∃ (l0 l1 l2 l3 l4 l5 l6 l7 l8 : Bool) (u0 u1 u2 u3 u4 u5 u6 u7 : Value), listed = #[l0, l1, l2, l3, l4, l5, l6, l7, l8] ∧ fuel = (if l0 = true then 0 else 1) + (if l1 = true then 0 else 1) + (if l2 = true then 0 else 1) + (if l3 = true then 0 else 1) + (if l4 = true then 0 else 1) + (if l5 = true then 0 else 1) + (if l6 = true then 0 else 1) + (if l7 = true then 0 else 1) + (if l8 = true then 0 else 1) ∧ a = { tmps := #[.slice A m c, undef, .slice none 0 0, .int .i64 0, .int .i64 0, .pointer (some ⟨W.heap.size, 0, none⟩), .slice (some ⟨b, o + 2 * x.val, none⟩) 2 2, .slice A m c, .int .i64 0, .int .i64 0, .bool false, undef, .slice A m c, .func (.func 50) #[] #[.pointer (some ⟨W.heap.size + 1, 0, none⟩), .pointer (some ⟨W.heap.size + 2, 0, none⟩)], .slice (some ⟨b, o + 2 * x.val, none⟩) 2 2, u0, u1, u2, u3, u4, u5, u6, u7, undef], defers := [] } ∧ ((l0 = true → u0 = v) ∧ (l1 = true → u1 = .slice (some ⟨b, o + 2 * x.val, none⟩) 2 2) ∧ (l2 = true → u2 = .slice (some ⟨b, o + 2 * x.val, none⟩) 1 2) ∧ (l3 = true → u3 = .slice (some ⟨b, o + 2 * x.val, none⟩) 2 2) ∧ (l4 = true → u4 = .pointer (some ⟨b, o + 2 * x.val + 1, none⟩)) ∧ (l5 = true → u5 = .int .i64 q) ∧ (l6 = true → u6 = .slice (some ⟨V.heap.size, 0, none⟩) q q)) ∧ ((l6 = true → l5 = true ∧ l2 = true) ∧ (l7 = true → l6 = true ∧ l0 = true) ∧ (l8 = true → l7 = true)) ∧ ((l6 = false → w = V.drew) ∧ (l6 = true → l7 = false → OwP V p q w) ∧ (l7 = true → l8 = false → ApP V W.heap.size L p q v w u7) ∧ (l8 = true → FnP V W.heap.size L p q w))) ?fin ?zer ?stp _ _ _ _ ?ini
      case ini => exact ⟨false, false, false, false, false, false, false, false, false, undef, undef, undef, undef, undef, undef, undef, undef, rfl, rfl, rfl, ⟨by simp, by simp, by simp, by simp, by simp, by simp, by simp⟩, ⟨by simp, by simp, by simp⟩, ⟨fun _ => rfl, by simp, by simp, by simp⟩⟩
      case zer =>
        rintro listed a w ⟨l0, l1, l2, l3, l4, l5, l6, l7, l8, u0, u1, u2, u3, u4, u5, u6, u7, rfl, hc, -, -, -, -⟩
        cases l0 <;> cases l1 <;> cases l2 <;> cases l3 <;> cases l4 <;> cases l5 <;> cases l6 <;> cases l7 <;> cases l8 <;> first | (simp at hc; done) | decide +kernel
      case fin =>
        rintro fuel listed a w ⟨l0, l1, l2, l3, l4, l5, l6, l7, l8, u0, u1, u2, u3, u4, u5, u6, u7, rfl, hc, rfl, -, ⟨g6, g7, g8⟩, -, -, -, h8⟩ hr
        have hl8 : l8 = true := by
          clear hc g6 g7 g8 h8
          revert l0 l1 l2 l3 l4 l5 l6 l7 l8
          decide +kernel
        have HF := h8 hl8
        clear hc h8 g6 g7 g8 hl8 hr
        obtain ⟨v', f1, f2, f3, f4, f5⟩ := HF
        change KeepsFrom _ _ _ ∧ KX _ _ _ ∧ _
        refine ⟨f1 _, f5 _ (by omega) (fun b hb => by have hb : b = W.heap.size + 1 ∨ b = W.heap.size + 2 := hb; omega), ⟨⟨v', f2, by rw [HEX.out, List.length_append, List.length_replicate, List.map_append]; exact f3, trivial⟩, hVB.trans (f4 _ hwW), hVW.trans (f4 _ (Nat.le_refl _))⟩⟩
      case stp =>
        rintro fuel listed a w ⟨l0, l1, l2, l3, l4, l5, l6, l7, l8, u0, u1, u2, u3, u4, u5, u6, u7, rfl, hc, rfl, ⟨k0, k1, k2, k3, k4, k5, k6⟩, ⟨g6, g7, g8⟩, h6, h7, h8, h9⟩ i hi
        have hi9 : i < 9 := by
          have := (List.mem_filter.1 hi).1
          simpa using this
        rcases i with _ | _ | _ | _ | _ | _ | _ | _ | _ | i
        · have pre : l0 = false := by
            clear hc k0 k1 k2 k3 k4 k5 k6 g6 g7 g8 h6 h7 h8 h9
            revert l0 l1 l2 l3 l4 l5 l6 l7 l8
            decide +kernel
          obtain ⟨rfl⟩ := pre
          refine wpOpIn_step rfl (fun K hK => ?_)
          have l7f : l7 = false := by cases l7 with | false => rfl | true => exact absurd (g7 rfl).2 (by decide)
          have cw : w.cell? ⟨W.heap.size, 0, none⟩ = some v := by
            cases l6 with
            | false => rw [h6 rfl]; exact hc0
            | true => exact ((h7 rfl l7f).2.cell (p := ⟨W.heap.size, 0, none⟩) (by show W.heap.size < _; omega)).trans hc0
          go_simp
          exact hK _ _ ⟨_, _, _, _, _, _, _, _, _, _, _, _, _, _, _, _, _, rfl, by (simp at hc ⊢; first | done | omega), rfl, ⟨fun _ => rfl, k1, k2, k3, k4, k5, k6⟩, ⟨g6, fun h => ⟨(g7 h).1, rfl⟩, g8⟩, ⟨h6, h7, h8, h9⟩⟩
        · have pre : l1 = false := by
            clear hc k0 k1 k2 k3 k4 k5 k6 g6 g7 g8 h6 h7 h8 h9
            revert l0 l1 l2 l3 l4 l5 l6 l7 l8
            decide +kernel
          obtain ⟨rfl⟩ := pre
          refine wpOpIn_step rfl (fun K hK => ?_)
          go_simp
          exact hK _ _ ⟨_, _, _, _, _, _, _, _, _, _, _, _, _, _, _, _, _, rfl, by (simp at hc ⊢; first | done | omega), rfl, ⟨k0, fun _ => rfl, k2, k3, k4, k5, k6⟩, ⟨g6, g7, g8⟩, ⟨h6, h7, h8, h9⟩⟩
        · have pre : l2 = false ∧ l1 = true := by
            clear hc k0 k1 k2 k3 k4 k5 k6 g6 g7 g8 h6 h7 h8 h9
            revert l0 l1 l2 l3 l4 l5 l6 l7 l8
            decide +kernel
          obtain ⟨rfl, rfl⟩ := pre
          refine wpOpIn_step rfl (fun K hK => ?_)
          obtain rfl := k1 rfl
          go_simp
          exact hK _ _ ⟨_, _, _, _, _, _, _, _, _, _, _, _, _, _, _, _, _, rfl, by (simp at hc ⊢; first | done | omega), rfl, ⟨k0, k1, fun _ => rfl, k3, k4, k5, k6⟩, ⟨fun h => ⟨(g6 h).1, rfl⟩, g7, g8⟩, ⟨h6, h7, h8, h9⟩⟩
        · have pre : l3 = false := by
            clear hc k0 k1 k2 k3 k4 k5 k6 g6 g7 g8 h6 h7 h8 h9
            revert l0 l1 l2 l3 l4 l5 l6 l7 l8
            decide +kernel
          obtain ⟨rfl⟩ := pre
          refine wpOpIn_step rfl (fun K hK => ?_)
          go_simp
          exact hK _ _ ⟨_, _, _, _, _, _, _, _, _, _, _, _, _, _, _, _, _, rfl, by (simp at hc ⊢; first | done | omega), rfl, ⟨k0, k1, k2, fun _ => rfl, k4, k5, k6⟩, ⟨g6, g7, g8⟩, ⟨h6, h7, h8, h9⟩⟩
        · have pre : l4 = false ∧ l3 = true := by
            clear hc k0 k1 k2 k3 k4 k5 k6 g6 g7 g8 h6 h7 h8 h9
            revert l0 l1 l2 l3 l4 l5 l6 l7 l8
            decide +kernel
          obtain ⟨rfl, rfl⟩ := pre
          refine wpOpIn_step rfl (fun K hK => ?_)
          obtain rfl := k3 rfl
          go_simp
          exact hK _ _ ⟨_, _, _, _, _, _, _, _, _, _, _, _, _, _, _, _, _, rfl, by (simp at hc ⊢; first | done | omega), rfl, ⟨k0, k1, k2, k3, fun _ => rfl, k5, k6⟩, ⟨g6, g7, g8⟩, ⟨h6, h7, h8, h9⟩⟩
        · have pre : l5 = false ∧ l4 = true := by
            clear hc k0 k1 k2 k3 k4 k5 k6 g6 g7 g8 h6 h7 h8 h9
            revert l0 l1 l2 l3 l4 l5 l6 l7 l8
            decide +kernel
          obtain ⟨rfl, rfl⟩ := pre
          refine wpOpIn_step rfl (fun K hK => ?_)
          obtain rfl := k4 rfl
          have l6f : l6 = false := by cases l6 with | false => rfl | true => exact absurd (g6 rfl).1 (by decide)
          obtain rfl := h6 l6f
          go_simp
          exact hK _ _ ⟨_, _, _, _, _, _, _, _, _, _, _, _, _, _, _, _, _, rfl, by (simp at hc ⊢; first | done | omega), rfl, ⟨k0, k1, k2, k3, k4, fun _ => rfl, k6⟩, ⟨fun h => ⟨rfl, (g6 h).2⟩, g7, g8⟩, ⟨h6, h7, h8, h9⟩⟩
        · have pre : l6 = false ∧ l2 = true ∧ l5 = true := by
            clear hc k0 k1 k2 k3 k4 k5 k6 g6 g7 g8 h6 h7 h8 h9
            revert l0 l1 l2 l3 l4 l5 l6 l7 l8
            decide +kernel
          obtain ⟨rfl, rfl, rfl⟩ := pre
          refine wpOpIn_step rfl (fun K hK => ?_)
          obtain rfl := k2 rfl
          obtain rfl := k5 rfl
          obtain rfl := h6 rfl
          have l7f : l7 = false := by cases l7 with | false => rfl | true => exact absurd (g7 rfl).1 (by decide)
          have l8f : l8 = false := by cases l8 with | false => rfl | true => rw [g8 rfl] at l7f; cases l7f
          subst l7f l8f
          go_simp
          refine (CR _).out.mono ?_
          rintro e w1 ⟨rfl, ow, bb⟩
          exact hK _ _ ⟨_, _, _, _, _, _, _, _, _, _, _, _, _, _, _, _, _, rfl, by (simp at hc ⊢; first | done | omega), rfl, ⟨k0, k1, k2, k3, k4, k5, fun _ => rfl⟩, ⟨fun _ => ⟨rfl, rfl⟩, fun h => ⟨rfl, (g7 h).2⟩, g8⟩, ⟨by simp, fun _ _ => ⟨ow, ⟨bb.os, bb.tape, bb.output, bb.size, bb.block⟩⟩, by simp, by simp⟩⟩
        · have pre : l7 = false ∧ l0 = true ∧ l6 = true := by
            clear hc k0 k1 k2 k3 k4 k5 k6 g6 g7 g8 h6 h7 h8 h9
            revert l0 l1 l2 l3 l4 l5 l6 l7 l8
            decide +kernel
          obtain ⟨rfl, rfl, rfl⟩ := pre
          refine wpOpIn_step rfl (fun K hK => ?_)
          obtain rfl := k0 rfl
          obtain rfl := k6 rfl
          have l8f : l8 = false := by cases l8 with | false => rfl | true => exact absurd (g8 rfl) (by decide)
          subst l8f
          obtain ⟨ow, bb⟩ := h7 rfl rfl
          refine stepX rfl (.tmp 15) (.tmp 21) rfl (W.heap.size + 3) u0 L.length (L.map (Value.int .i64)) rfl (row_kept HR.out (fun g hg => bb.block g (HR.out.lt g hg).2)) ⟨V.heap.size, 0, none⟩ q q (flatI (List.replicate q p)) rfl (by simp [flatI]) (rep_src ow) (by intro u hu; simp [flatI] at hu; obtain ⟨_, rfl⟩ := hu; rfl) (by unfold maxLen; omega) (by omega) (by have := bb.size; omega) ?_
          intro v' w2 r1 r2
          exact hK _ _ ⟨_, _, _, _, _, _, _, _, _, _, _, _, _, _, _, _, _, rfl, by (simp at hc ⊢; first | done | omega), rfl, ⟨k0, k1, k2, k3, k4, k5, k6⟩, ⟨g6, fun _ => ⟨rfl, rfl⟩, fun _ => rfl⟩, ⟨by simp, by simp, fun _ _ => ⟨w, bb, r1, r2⟩, by simp⟩⟩
        · have pre : l8 = false ∧ l7 = true := by
            clear hc k0 k1 k2 k3 k4 k5 k6 g6 g7 g8 h6 h7 h8 h9
            revert l0 l1 l2 l3 l4 l5 l6 l7 l8
            decide +kernel
          obtain ⟨rfl, rfl⟩ := pre
          refine wpOpIn_step rfl (fun K hK => ?_)
          obtain ⟨w1, bb, r1, r2⟩ := h8 rfl rfl
          obtain ⟨A7, n7, c7, rfl⟩ := row_slice r1
          have FN := app_fin HV.out HR.out bb r1 r2 (by omega)
          have cb := FN.1.cell
          have fb := FN.1.frozen
          go_simp
          refine hK _ _ ?_
          exact ⟨_, _, _, _, _, _, _, _, _, _, _, _, _, _, _, _, _, rfl, by (simp at hc ⊢; first | done | omega), rfl, ⟨by first | exact k0 | exact fun _ => rfl, by first | exact k1 | exact fun _ => rfl, by first | exact k2 | exact fun _ => rfl, by first | exact k3 | exact fun _ => rfl, by first | exact k4 | exact fun _ => rfl, by first | exact k5 | exact fun _ => rfl, by first | exact k6 | exact fun _ => rfl⟩, ⟨g6, g7, fun _ => rfl⟩, ⟨fun h => (by rw [(g7 rfl).1] at h; cases h), by simp, by simp, fun _ => ⟨_, FN.2.1, FN.2.2.1, FN.2.2.2.1, FN.2.2.2.2.1, fun X h1 h2 => FN.2.2.2.2.2 X h1 h2⟩⟩⟩
        · omega
    case done =>
      rintro D ys V hD rfl ⟨⟨v, hv, hrow, _⟩, hVB, hVW⟩ hK
      have hc := hv.cell
      have HE := Lib.hid (exF_all (k := k) xs)
      gi_wp2
      refine ⟨by simp, .inl ⟨_, _, rfl, run_takeDeferred hK, ?_⟩⟩
      refine ⟨_, results_tmp2 rfl _ _ _, (HP.out _ _).2 ⟨⟨v, rfl, ?_⟩, hVB.trans (belowK_b (w := w) (Nat.le_refl _) V D _ _ (by omega) hK rfl rfl)⟩⟩
      rw [HE.out] at hrow
      exact ownsRow_putObj (own_base hrow (by omega)) _ hK rfl
    case stop =>
      rintro D c pre W _ _ h _
      exact h.elim
  · have HP := Lib.hid (show ∀ e w', ExPost xs w e w' ↔ e = .returned (.tuple #[.slice none 0 0, .int .i64 (fcE xs)]) ∧ Below w.heap.size w w' from fun e w' => by unfold ExPost; rw [if_neg h0])
    obtain ⟨r, hr⟩ : ∃ r, fcE xs = r := ⟨_, rfl⟩
    rw [hr] at CF h0
    have HRR := Lib.hid hr
    have z0 : (r == 0) = false := by simp; exact h0
    have z1 : (r != 0) = true := by simp; exact h0
    clear hr h0 hl hrd hb
    refine callsIn_of_wp Try.func29 rfl (hF _) ?_ hro
    simp only [Try.ntmps29, List.size_toArray, List.length_cons, List.length_nil, Nat.reduceAdd, Nat.reduceSub, Array.replicate_succ, Array.replicate_zero, List.push_toArray, List.append_toArray, List.nil_append, List.cons_append]
    gi_wp2_with (gi_at_call 45; refine CF.out.mono ?_; rintro e w' ⟨rfl, hB⟩)
    go_ret2
    rw [HP.out, HRR.out]
    exact ⟨rfl, hB⟩
theorem expand_any (A : Option Addr) (m c : Nat) (xs : List Int) (hl : xs.length = m) (hm : m ≤ 2000) (hmc : m ≤ c) (hcx : c ≤ 9223372036854775807) (hb : BdI xs) (w : World) (hrd : RdK .i64 w A xs) :
    Calls Try.prog 29 #[.slice A m c] w (ExPost xs w) :=
  callsIn_wide.1 (expand_in Fence.wide (fun _ => trivial) rfl (fun h => callsIn_wide.2 h) 5 (Nat.le_refl _) A m c xs hl hm hmc hcx hb w hrd)
end Pk
end Go.Proofs.Ytnoggggbghkgkaa
