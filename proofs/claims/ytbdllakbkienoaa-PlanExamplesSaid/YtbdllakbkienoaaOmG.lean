/- Get, Put, PutIfAbsent, Delete and CompareAndSwap of leapfrogref05: contracts of the translated code. Conditions: at most 999 pairs with increasing keys; the bounds of each number's kind. -/
import Derived.Test.YtbdllakbkienoaaOmS
namespace Go.Proofs.Ytbdllakbkienoaa
open Go.RowKit Go.Sort
set_option linter.unusedVariables false
set_option linter.unusedSimpArgs false
namespace Om
/-- only the map bm and its row have changed, and what is new -/
structure Chg (bm : Nat) (v : Value) (w w' : World) : Prop where
  os : w'.os = w.os
  tape : w'.tape = w.tape
  output : w'.output = w.output
  size : w.heap.size ≤ w'.heap.size
  block : ∀ k, k < w.heap.size → k ≠ bm → v.ownBlock ≠ some k → w'.heap[k]? = w.heap[k]?
/-- the next row is the same one, or new -/
def Nx (w : World) (v v' : Value) : Prop := ∀ k, v'.ownBlock = some k → v.ownBlock = some k ∨ w.heap.size ≤ k
theorem Nx.refl (w : World) (v : Value) : Nx w v v := fun k hk => .inl hk
theorem Nx.fresh {w : World} {v v' : Value} (h : Fresh w.heap.size v') : Nx w v v' := fun k hk => .inr (h k hk)
theorem Chg.of_only {bm : Nat} {v : Value} {w w' : World} (h : Only bm w w') : Chg bm v w w' := ⟨h.os, h.tape, h.output, h.size, fun k hk hb _ => h.block k hk (fun e => hb (by injection e))⟩
theorem Chg.of_below {bm : Nat} {v : Value} {w w' : World} (h : Below w.heap.size w w') : Chg bm v w w' := ⟨h.os, h.tape, h.output, h.size, fun k hk _ _ => h.block k hk⟩
theorem Chg.trans {bm : Nat} {v v' : Value} {a b c : World} (h : Chg bm v a b) (k : Chg bm v' b c) (n : Nx a v v') : Chg bm v a c :=
  ⟨k.os.trans h.os, k.tape.trans h.tape, k.output.trans h.output, Nat.le_trans h.size k.size, fun i hi hb hv =>
    (k.block i (Nat.lt_of_lt_of_le hi h.size) hb (fun e => by rcases n i e with e' | e'; exact hv e'; omega)).trans (h.block i hi hb hv)⟩
theorem Nx.trans {a b : World} {u v x : Value} (h : Nx a u v) (k : Nx b v x) (s : a.heap.size ≤ b.heap.size) : Nx a u x := fun i hi => by
  rcases k i hi with e | e
  · exact h i e
  · exact .inr (by omega)
theorem Chg.below {bm B : Nat} {v : Value} {w w' : World} (h : Chg bm v w w') (hB : B ≤ bm) (hv : Fresh B v) (hw : B ≤ w.heap.size) : Below B w w' :=
  ⟨h.os, h.tape, h.output, h.size, fun k hk => h.block k (by omega) (by omega) (fun e => by have := hv k e; omega)⟩
/-- two maps that share no block -/
structure Two (bm : Nat) (v : Value) (bn : Nat) (u : Value) : Prop where
  ne : bm ≠ bn
  l : v.ownBlock ≠ some bn
  r : u.ownBlock ≠ some bm
  ap : Apt v u
theorem Two.symm {bm bn : Nat} {v u : Value} (h : Two bm v bn u) : Two bn u bm v := ⟨h.ne.symm, h.r, h.l, h.ap.symm⟩
theorem Two.next {bm bn : Nat} {v v' u : Value} {w : World} (h : Two bm v bn u) (n : Nx w v v') (hn : bn < w.heap.size) (hu : ∀ k, u.ownBlock = some k → k < w.heap.size) : Two bm v' bn u :=
  ⟨h.ne, fun e => by rcases n bn e with e' | e'; exact h.l e'; omega, h.r, fun k hk hk2 => by rcases n k hk with e | e; exact h.ap k e hk2; have := hu k hk2; omega⟩
theorem MapAt.other {bm bn : Nat} {v u : Value} {l : List Pr} {w w' : World} (h : MapAt w bn u l) (t : Two bm v bn u) (c : Chg bm v w w') : MapAt w' bn u l :=
  h.keep (c.block bn h.lt t.ne.symm t.l) fun k hk => c.block k (h.row_lt k hk) (fun e => t.r (e ▸ hk)) fun e => t.ap k e hk
/-- the outcome of a call that may write the map bm -/
def Opn (w : World) (bm : Nat) (v : Value) (l : List Pr) (r : Value) (e : Ending) (w' : World) : Prop :=
  ∃ v', e = .returned r ∧ MapAt w' bm v' l ∧ Nx w v v' ∧ Chg bm v w w'
theorem SPost.opn {w w' : World} {bm : Nat} {v : Value} {l : List Pr} {r : Value} {e : Ending} (h : SPost w bm l r e w') : Opn w bm v l r e w' := by
  obtain ⟨v', he, hm, hf, ho⟩ := h
  exact ⟨v', he, hm, Nx.fresh hf, Chg.of_only ho⟩
/-! ### Get -/
def gT (o : Option Int) : Value := .tuple #[.int .u64 (o.getD 0), .bool o.isSome]
theorem getL_at {l : List Pr} (h : Asc l) {k u : Int} (hg : getL l k = some u) : ∃ i : Nat, l[i]? = some (k, u) := List.mem_iff_getElem?.1 ((getL_mem h).1 hg)
theorem getR_nil (key : Int) (w : World) : Calls Try.prog 69 #[.pointer none, .int .u64 key] w fun e w' => e = .returned (gT none) ∧ w = w' := by
  go_enter Try.func69, Try.ntmps69
  go_wp2
  go_ret2
  exact ⟨rfl, rfl⟩
theorem getR_any (bm : Nat) (v : Value) (l : List Pr) (key : Int) (w : World) (hm : MapAt w bm v l) (ha : Asc l) (hs : l.length ≤ 1000) :
    Calls Try.prog 69 #[.pointer (some ⟨bm, 0, none⟩), .int .u64 key] w fun e w' => e = .returned (gT (getL l key)) ∧ Below w.heap.size w w' := by
  cases hg : getL l key with
  | none =>
    have C := Lib.hid (place_no bm v l key w hm hs (getL_none.1 hg))
    clear hg hm
    go_enter Try.func69, Try.ntmps69
    go_wp2_with fail
    refine C.out.mono ?_
    rintro r w1 ⟨rfl, rfl⟩
    go_wp2
    go_ret2
    exact ⟨rfl, Below.refl _ _⟩
  | some u =>
    obtain ⟨i, hi⟩ := getL_at ha hg
    have C := fun W h => Lib.hid (place_at bm v l key u i W h ha hs hi)
    obtain ⟨A, c, rfl, hc, rd, hz⟩ := hm.rd
    have c0 := hm.1
    have HM := Lib.hid hm; clear hm
    have hil : i < l.length := (List.getElem?_eq_some_iff.1 hi).1
    obtain ⟨b, o, rfl, g0, g1⟩ := rd i _ hi
    clear rd hg hi ha
    have hii : (i : Int) < l.length := by omega
    have hl1 : (l.length : Int) ≤ 1000 := by omega
    generalize l.length = n at *
    go_enter Try.func69, Try.ntmps69
    go_wp2_with fail
    refine (C _ HM.out).out.mono ?_
    rintro r w1 ⟨rfl, rfl⟩
    go_wp2
    go_quiet ((go_at_call 82; apply quiet_left; exact (C _ (HM.out.drewN _)).out))
    go_wp2
    go_ret2
    exact ⟨rfl, below_drewN (Below.refl _ _) _⟩
/-! ### Put and its like -/
def paL (l : List Pr) (o : Option Int) (p : Pr) : List Pr := match o with | some _ => l | none => setL l p
def casL (l : List Pr) (o : Option Int) (old : Int) (p : Pr) : List Pr := if o = some old then setL l p else l
theorem results_tmp4 {fn : Func} {t u v x : Tmp} (h : fn.results = #[.tmp t, .tmp u, .tmp v, .tmp x]) (tmps : Array Value) (P : Program) (w : World) :
    (results fn tmps).run P w = .ok (.tuple #[tmps.getD t undef, tmps.getD u undef, tmps.getD v undef, tmps.getD x undef]) w := by simp [results, h]
def pT (o : Option Int) : Value := .tuple #[.int .u64 (o.getD 0), .bool o.isSome, .int .i64 0]
theorem Opn.behind {w w1 w' : World} {bm : Nat} {v : Value} {l : List Pr} {r r' : Value} {e e' : Ending} (b : Below w.heap.size w w1) (h : Opn w1 bm v l r e w') (he : e' = .returned r') : Opn w bm v l r' e' w' := by
  obtain ⟨v', _, hm, hn, hc⟩ := h
  exact ⟨v', he, hm, (Nx.refl w v).trans hn b.size, (Chg.of_below b).trans hc (Nx.refl _ _)⟩
set_option maxHeartbeats 1000000 in
theorem putR_any (bm : Nat) (v : Value) (l : List Pr) (key x : Int) (w : World) (hm : MapAt w bm v l) (ha : Asc l) (hs : l.length ≤ 1000) :
    Calls Try.prog 52 #[.pointer (some ⟨bm, 0, none⟩), .int .u64 key, .int .u64 x] w (Opn w bm v (setL l (key, x)) (pT (getL l key))) := by
  have C := Lib.hid (getR_any bm v l key w hm ha hs)
  have CS := fun W h => Lib.hid (set_any bm v l (key, x) W h hs)
  have HM := Lib.hid hm; clear hm ha
  generalize getL l key = o at *
  unfold gT at C
  go_enter Try.func52, Try.ntmps52
  go_wp2_with fail
  refine C.out.mono ?_
  rintro r w1 ⟨rfl, b1⟩
  go_wp2_with fail
  refine (CS _ (HM.out.below b1)).out.mono ?_
  intro r w2 hS
  have HS := Lib.hid (hS.opn (v := v))
  obtain ⟨v', rfl, hS'⟩ := hS
  clear hS'
  go_wp2
  go_ret3
  exact HS.out.behind b1 rfl
theorem bd_get {l : List Pr} (hd : Bd l) (ha : Asc l) {k u : Int} (h : getL l k = some u) : 0 ≤ u ∧ u ≤ 18446744073709551615 := by
  have := hd _ ((getL_mem ha).1 h)
  exact ⟨this.2.2.1, this.2.2.2⟩
set_option maxHeartbeats 1000000 in
theorem delR_any (bm : Nat) (v : Value) (l : List Pr) (key : Int) (w : World) (hm : MapAt w bm v l) (ha : Asc l) (hd : Bd l) (hs : l.length ≤ 1000) (kl : 0 ≤ key) (kh : key ≤ 18446744073709551615) :
    Calls Try.prog 53 #[.pointer (some ⟨bm, 0, none⟩), .int .u64 key] w (Opn w bm v (outL l key key) (pT (getL l key))) := by
  have C := Lib.hid (getR_any bm v l key w hm ha hs)
  have CS := fun W h => Lib.hid (cut_any bm v l key key W h hs hd kl kh kl kh)
  have HM := Lib.hid hm; clear hm ha
  generalize getL l key = o at *
  unfold gT at C
  go_enter Try.func53, Try.ntmps53
  go_wp2_with fail
  refine C.out.mono ?_
  rintro r w1 ⟨rfl, b1⟩
  go_wp2_with fail
  refine (CS _ (HM.out.below b1)).out.mono ?_
  rintro r w2 ⟨q, v', rfl, hq, hm2, hf, ho⟩
  have HS := Lib.hid (show Opn w1 bm v (outL l key key) (.tuple #[]) (.returned (.tuple #[])) w2 from ⟨v', rfl, hm2, Nx.fresh hf, Chg.of_only ho⟩)
  clear hq hm2 hf ho
  go_wp2
  go_ret3
  exact HS.out.behind b1 rfl
def cT (o : Option Int) (old : Int) : Value := .tuple #[.int .u64 (o.getD 0), .bool o.isSome, .bool (decide (o = some old)), .int .i64 0]
end Om
end Go.Proofs.Ytbdllakbkienoaa
