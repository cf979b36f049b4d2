/- Pairs of package tower: contract of the translated code. Conditions: what the states refer to is there; the pairs of the lists, one list after another, are ascending, and fewer than 20. -/
import Derived.Test.YtjcbjbhlclajnaaTwL
import Derived.Test.YtjcbjbhlclajnaaTwP
import Derived.Test.YtjcbjbhlclajnaaTwU
import Derived.Maps.OwnIn
namespace Go.Proofs.Ytjcbjbhlclajnaa
open Go.RowKit Go.Shelf Go.Sort
set_option linter.unusedVariables false
set_option linter.unusedSimpArgs false
set_option maxRecDepth 100000
attribute [local go_sem] Oper.semAt_some
namespace Tw
open Wd
open Ly (Ge tot pk pW nxO wdO ad tg gs InT Cf LyAt I64 Kd)
open Dm (addr_lit bel_alloc bel_trans)
/-- the pairs of the lists of the first n values, one list after another -/
def rawL (g : Ge) (M : Wm) : Nat → List Pq
  | 0 => []
  | n + 1 => rawL g M n ++ (ls g M (n : Int) 0).filterMap (prO g M)
theorem rawL_len (g : Ge) (M : Wm) : ∀ n, (rawL g M n).length ≤ n * (tot g.t 6 + 1)
  | 0 => by simp [rawL]
  | n + 1 => by
    have h1 := rawL_len g M n
    have h2 := ls_len g M (n : Int) 0
    have h3 := List.length_filterMap_le (prO g M) (ls g M (n : Int) 0)
    rw [rawL, List.length_append, Nat.add_mul]
    omega
theorem hasB_lt {g : Ge} {v : Nat} (h : v < g.D) : hasB g (v : Int) 0 = true := by
  have e : nxO g (-1 - (v : Int)) 0 = some (Ly.pH g + 7 * v + 1) := by
    unfold nxO
    rw [if_pos ⟨by omega, by omega⟩, if_neg (by omega), if_neg (by omega), show -1 - (-1 - (v : Int)) = ((v : Nat) : Int) by omega]
    exact Ly.ad8 g (u := 1) h (by omega)
  unfold hasB nxE
  rw [e]
  simp
theorem hasB_ge {g : Ge} {v : Nat} (h : g.D ≤ v) : hasB g (v : Int) 0 = false := by
  have e : nxO g (-1 - (v : Int)) 0 = none := by
    unfold nxO
    rw [if_pos ⟨by omega, by omega⟩, if_neg (by omega), if_neg (by omega)]
    exact Ly.ad8_none g (fun hh => by omega) (by omega) _
  unfold hasB nxE
  rw [e]
  simp
/-- what the ranges of a loop leave among the deferred calls -/
def Mk (B : Nat) (ds : List Deferred) (W : World) : Prop := ds.Nodup ∧ ∀ d, d ∈ ds → ∃ D, d = { target := .collected D, args := #[] } ∧ W.heap[D]? = some (.deferred (some [])) ∧ B ≤ D
theorem leave_marks {F : Fence} {n : Nat} {P : Program} {fn : Func} {tmps : Array Value} {R : Ending → World → Prop} {B : Nat} (I : World → Prop) (hI : ∀ W D, B ≤ D → W.heap[D]? = some (.deferred (some [])) → I W → I (W.putObj D (.deferred none)))
    (hR : ∀ W', I W' → LeavesInM F n P fn tmps R [] .returning W') : ∀ (ds : List Deferred) (W : World), Mk B ds W → I W → LeavesInM F n P fn tmps R ds .returning W
  | [], W, _, h => hR W h
  | d :: ds, W, ⟨hn, hm⟩, h => by
    obtain ⟨D, rfl, hd, hB⟩ := hm d (List.mem_cons_self ..)
    obtain ⟨hn1, hn2⟩ := List.nodup_cons.1 hn
    refine ⟨by simp, .inl ⟨D, _, rfl, run_takeDeferred hd, leave_marks I hI hR ds _ ⟨hn2, fun e he => ?_⟩ (hI W D hB hd h)⟩⟩
    obtain ⟨E, rfl, hE, hB2⟩ := hm e (List.mem_cons_of_mem _ he)
    refine ⟨E, rfl, ?_, hB2⟩
    rw [World.putObj_heap_other (by intro q; subst q; exact hn1 he)]
    exact hE
theorem kq_new (W : World) (y : Pq) (cs : Array Value) (hcs : cs.toList = KQ.enc y) : KQ.At (W.alloc (.cells cs KQ.E)) W.heap.size 0 y := fun j u hj => by
  rw [← hcs] at hj
  rw [Nat.zero_add]
  have h : (W.alloc (.cells cs KQ.E)).heap[W.heap.size]? = some (.cells cs KQ.E) := (MapKept.heap_alloc W _).1
  simp only [World.cell?, h]
  rw [Array.getElem?_toList] at hj
  exact hj
theorem kq_app {F : Fence} {nF : Nat} {ops : Array Oper} {rest : List Oper} {o : Oper} {a : Act} {Q : Exit → Act → World → Prop} (hgd : o.guard = none) (s x : Operand)
    (ho : o.op = .call { callee := .builtin .append, args := #[s, x], argTypes := #[KQ.S, KQ.S] }) (W : World) (base : Nat) (v : Value) (ys : List Pq) (y : Pq) (cs : Array Value) (hcs : cs.toList = KQ.enc y)
    (hs : a.eval s = v) (hx : a.eval x = .slice (some ⟨W.heap.size, 0, none⟩) 1 1) (hown : W.ownsRow base KQ.E KQ.sz v ys.length (KQ.flat ys)) (hn : ys.length ≤ 100000) (hb : base ≤ W.heap.size)
    (h : ∀ v' w', w'.ownsRow base KQ.E KQ.sz v' (ys.length + 1) (KQ.flat (ys ++ [y])) → (W.alloc (.cells cs KQ.E)).grownBy w' v.ownBlock → (v'.ownBlock = v.ownBlock ∨ v'.ownBlock = some (W.heap.size + 1)) → wpListIn F nF Try.prog ops Q rest (a.put o.dst v') w') :
    wpListIn F nF Try.prog ops Q (o :: rest) a (W.alloc (.cells cs KQ.E)) := by
  obtain ⟨i0, z, hi, hz0, hzs, hz1, hz2⟩ := KQ.info
  have hbt := KQ.bpos
  have hbytes : (ys.length + 1) * KQ.bt ≤ 140737488355328 := by
    have : (ys.length + 1) * KQ.bt ≤ 100001 * 64 := Nat.mul_le_mul (by omega) hbt
    omega
  refine wpListIn_append_own_at _ hgd s x KQ.S ho base KQ.E i0 z KQ.sz KQ.bt KQ.und hi hz0 hz1 hz2 hzs KQ.pos v ys.length (KQ.flat ys) hs (hown.alloc _) ⟨W.heap.size, 0, none⟩ 1 1 (KQ.enc y) hx (by rw [KQ.len, Nat.one_mul]) ?_ (KQ.one y) (by unfold maxLen; omega) hbytes (by rw [World.size_alloc]; omega) ?_
  · intro j u hj
    rw [addr_lit]
    exact kq_new W y cs hcs j u hj
  · intro v' w' h1 h2 _ h4
    rw [show KQ.flat ys ++ KQ.enc y = KQ.flat (ys ++ [y]) by rw [KQ.flat_append, KQ.flat_one]] at h1
    rw [World.size_alloc] at h4
    exact h v' w' h1 h2 h4
theorem sort_any {w : World} {A : Option Addr} {n c : Nat} {l : List Pq} (hr : KQ.Rd w A l) (hl : l.length = n) (hn : n < 20) (hs : As l) : Calls Try.prog 46 #[.slice A n c, fC] w fun e w' => e = .returned (.tuple #[]) ∧ Below w.heap.size w w' := by
  have CS := Lib.hid (stable_few (c := c) hr hl hn hs)
  clear hr hl hs
  unfold fC at *
  go_enter Try.func46, Try.ntmps46
  go_wp2_with fail
  refine CS.out.mono ?_
  rintro r1 W2 ⟨rfl, hb2⟩
  have HB2 := Lib.hid hb2
  clear hb2 CS
  go_wp2
  go_end0
  exact ⟨rfl, HB2.out⟩
/-- what the loop over the values keeps: the pairs so far lie in a row of their own, which the box holds -/
structure Rv (w : World) (x : Nat) (L : List Pq) (v : Value) (W : World) : Prop where
  b : Boxed W (w.heap.size + 1) KQ.S v
  r : W.ownsRow (w.heap.size + 2) KQ.E KQ.sz v L.length (KQ.flat L)
  t : W.cell? ⟨w.heap.size, 0, none⟩ = some (.pointer (some ⟨x, 0, none⟩))
  k : Below w.heap.size w W
  s : w.heap.size + 2 ≤ W.heap.size
theorem Rv.below {w W W' : World} {x : Nat} {L : List Pq} {v : Value} (h : Rv w x L v W) (hb : Below W.heap.size W W') : Rv w x L v W' := by
  have hs := h.s
  refine ⟨(hb.block _ (by omega)).trans h.b, KQ.own_keep h.r fun g e => hb.block _ (h.r.lt g e).2, (hb.cell (p := ⟨w.heap.size, 0, none⟩) (show w.heap.size < W.heap.size by omega)).trans h.t, h.k.trans (hb.mono h.k.size), Nat.le_trans h.s hb.size⟩
theorem Mk.below {B : Nat} {ds : List Deferred} {W W' : World} (h : Mk B ds W) (hb : Below W.heap.size W W') : Mk B ds W' := ⟨h.1, fun d hd => by
  obtain ⟨D, e, hD, hB⟩ := h.2 d hd
  exact ⟨D, e, (hb.block _ (Array.getElem?_eq_some_iff.1 hD).1).trans hD, hB⟩⟩
section
variable {w : World} {x bm p : Nat} {q : Option Nat} {bl : Nat} {f : Cf} {l : List Int} {g : Ge} {M : Wm}
set_option maxHeartbeats 8000000 in
theorem pairs_in (F : Fence) (hF : ∀ f, F.fn f) (hro : F.round = none) (hwide : ∀ {n g : Nat} {args : Array Value} {w : World} {R : Ending → World → Prop}, Calls Try.prog g args w R → CallsIn F n Try.prog g args w R) (hT : Tt w x bm p q bl f l g M) (hS : ∀ v : Nat, v < g.D → ∀ y, y ∈ ls g M (v : Int) 0 → StOk g M y) (hs : As (rawL g M g.D)) (hn : (rawL g M g.D).length < 20) :
    CallsIn F 5 Try.prog 19 #[.pointer (some ⟨x, 0, none⟩)] w fun e W' => (∃ v', e = .returned (.tuple #[v', .int .i64 0]) ∧ W'.ownsRow w.heap.size KQ.E KQ.sz v' (rawL g M g.D).length (KQ.flat (rawL g M g.D))) ∧ Below w.heap.size w W' := by
  have HT := Lib.hid hT
  have htt := hT.ok.tt
  have hd2 := hT.ok.d2
  have HS := Lib.hid hS
  have HAS := Lib.hid hs
  have HN := Lib.hid hn
  have CH := fun (n : Nat) (hn : n ≤ 64) (W : World) (hb : Below w.heap.size w W) => Lib.hid (hwide (n := 4) (has_any (hT.below hb) (n : Int) 0 ⟨by omega, by omega⟩))
  clear hT hS hs hn
  refine callsIn_of_wp_marks Try.func19 rfl (hF _) ?_ hro
  simp only [Try.ntmps19, List.size_toArray, List.length_cons, List.length_nil, Nat.reduceAdd, Nat.reduceSub, Array.replicate_succ, Array.replicate_zero, List.push_toArray, List.append_toArray, List.nil_append, List.cons_append]
  gi_wp2_with fail
  obtain ⟨W0, hW0⟩ : ∃ W0, W0 = (w.alloc (.cells #[.pointer (some ⟨x, 0, none⟩)] 22)).alloc (.cells #[.slice none 0 0] 51) := ⟨_, rfl⟩
  have r0 : Rv w x [] (.slice none 0 0) W0 := by
    refine ⟨?_, World.ownsRow_nil _ _ _ _, ?_, ?_, ?_⟩
    · rw [hW0]
      have := Boxed.new (w.alloc (.cells #[.pointer (some ⟨x, 0, none⟩)] 22)) 51 (.slice none 0 0)
      rw [World.size_alloc] at this
      exact this
    · rw [hW0, World.cell?_alloc_lt _ _ _ (by simp)]
      exact World.cell?_alloc_new _ _ _ _
    · rw [hW0]; exact bel_alloc (bel_alloc (Below.refl _ _) _) _
    · rw [hW0]; simp
  rw [← hW0]
  have HR0 := Lib.hid r0
  clear hW0 r0
  refine wpIn_loop (fun a wr => ∃ (n : Nat) (v u11 u12 u13 u14 u15 u16 u17 u18 : Value) (ds : List Deferred), n ≤ g.D ∧ Rv w x (rawL g M n) v wr ∧ Mk (w.heap.size + 2) ds wr ∧
    a = { tmps := #[.pointer (some ⟨x, 0, none⟩), .pointer (some ⟨w.heap.size, 0, none⟩), .slice none 0 0, .int .i64 0, .pointer (some ⟨w.heap.size + 1, 0, none⟩), .int .i64 (n : Int), undef, undef, undef, .pointer (some ⟨x, 0, none⟩), .bool false, u11, u12, u13, u14, u15, u16, u17, u18, undef, undef, undef, undef, undef, undef, undef, undef, undef, undef, undef, undef, undef, undef, undef, undef], defers := ds }) (fun a _ => ((g.D : Int) - intOf (a.tmps.getD 5 undef)).toNat) ?_ ?_
  · exact ⟨0, _, undef, undef, undef, undef, undef, undef, undef, undef, [], Nat.zero_le _, HR0.out, ⟨List.nodup_nil, fun d h => (by cases h)⟩, rfl⟩
  rintro _ wr ⟨n, v, u11, u12, u13, u14, u15, u16, u17, u18, ds, hnD, hrv, hmk, rfl⟩
  clear HR0
  have c1 := hrv.t
  have CHn := CH n (by omega) wr hrv.k
  have HRV := Lib.hid hrv
  have HMK := Lib.hid hmk
  by_cases hlt : n < g.D
  · rw [hasB_lt hlt] at CHn
    have HLT := Lib.hid hlt
    clear hrv hmk CH hlt
    gi_wp2_with fail
    refine CHn.out.mono ?_
    rintro e w1 ⟨rfl, hb1⟩
    have c2 := (hb1.cell (p := ⟨w.heap.size, 0, none⟩) (show w.heap.size < wr.heap.size by have := HRV.out.s; omega)).trans HRV.out.t
    have HB1 := Lib.hid hb1
    clear hb1 c1
    gi_wp2_with fail
    refine (list_in F 4 hF hro x (n : Int) 0 _).mono ?_
    rintro e w' ⟨rfl, rfl⟩
    gi_wp2_with fail
    obtain ⟨w5, hw5⟩ : ∃ W, W = ((w1.alloc (.cells #[.pointer (some ⟨x, 0, none⟩)] 22)).alloc (.cells #[.int .i64 (n : Int)] 3)).alloc (.cells #[.int .i64 0] 3) := ⟨_, rfl⟩
    rw [← hw5]
    obtain ⟨BT, hBT⟩ : ∃ BT, BT = w1.heap.size := ⟨_, rfl⟩
    have hs5 : w5.heap.size = BT + 3 := by rw [hw5, hBT]; simp
    have h15 : Below w1.heap.size w1 w5 := by rw [hw5]; exact (((Below.refl _ w1).alloc (Nat.le_refl _) _).alloc (by simp) _).alloc (by simp; omega) _
    have cT : w5.cell? ⟨BT, 0, none⟩ = some (.pointer (some ⟨x, 0, none⟩)) := by
      rw [hw5, hBT, World.cell?_alloc_lt _ _ _ (by first | (simp; done) | (simp; omega)), World.cell?_alloc_lt _ _ _ (by simp)]
      exact World.cell?_alloc_new _ _ _ _
    have cV : w5.cell? ⟨BT + 1, 0, none⟩ = some (.int .i64 (n : Int)) := by
      rw [hw5, hBT, World.cell?_alloc_lt _ _ _ (by first | (simp; done) | (simp; omega))]
      have := World.cell?_alloc_new (w1.alloc (.cells #[.pointer (some ⟨x, 0, none⟩)] 22)) #[.int .i64 (n : Int)] 3 0
      rw [World.size_alloc] at this
      exact this
    have cU : w5.cell? ⟨BT + 2, 0, none⟩ = some (.int .i64 0) := by
      rw [hw5, hBT]
      have := World.cell?_alloc_new ((w1.alloc (.cells #[.pointer (some ⟨x, 0, none⟩)] 22)).alloc (.cells #[.int .i64 (n : Int)] 3)) #[.int .i64 0] 3 0
      rw [World.size_alloc, World.size_alloc] at this
      exact this
    have b05 : Below wr.heap.size wr w5 := HB1.out.trans (h15.mono HB1.out.size)
    have rv5 := HRV.out.below b05
    have mk5 := HMK.out.below b05
    have hsw : w.heap.size + 2 ≤ BT := by have := HRV.out.s; have := HB1.out.size; omega
    rw [← hBT]
    have hvl := fun i (e : v.ownBlock = some i) => (HRV.out.r.lt i e)
    have hvb : ∀ i, v.ownBlock = some i → w.heap.size + 2 ≤ i ∧ i < BT := fun i e => ⟨(hvl i e).1, by have := (hvl i e).2; have := HB1.out.size; omega⟩
    obtain ⟨Z, hZ⟩ : ∃ Z : Nat → Prop, Z = fun i => i = w.heap.size + 1 ∨ v.ownBlock = some i := ⟨_, rfl⟩
    have hZ0 : ∀ i, i < w.heap.size + 1 → ¬ Z i := fun i hi h => by
      rw [hZ] at h
      rcases h with h | h
      · omega
      · have := (hvb i h).1; omega
    have hZ1 : ∀ i, BT ≤ i → ¬ Z i := fun i hi h => by
      rw [hZ] at h
      rcases h with h | h
      · omega
      · have := (hvb i h).2; omega
    have hT5 : ∀ V, Kx Z (BT + 3) w5 V → Tt V x bm p q bl f l g M := fun V hV => HT.out.below (rv5.k.trans (hV.below (N := w.heap.size) (fun i hi => hZ0 i (by omega)) (by omega)))
    have hlen : (rawL g M n).length ≤ 64 * 1025 := by
      have h1 := rawL_len g M n
      have h2 : n * (tot g.t 6 + 1) ≤ 64 * 1025 := Nat.mul_le_mul (by omega) (by omega)
      omega
    clear hw5 hBT h15 c2
    refine range_all hro (by omega) (gf := 73) (lb := #[.pointer (some ⟨BT + 1, 0, none⟩), .pointer (some ⟨BT, 0, none⟩), .pointer (some ⟨BT + 2, 0, none⟩)]) rfl (hF _) (enters_of Try.func73 (by kernel_rfl) rfl)
      (Z := Z) (n₀ := BT + 3) (w0 := w5) (list1_seq F 4 hF hro (fun h => hwide h) (by omega) (BT + 1) BT (BT + 2) (n : Int) 0 ⟨by omega, by omega⟩ (by omega) (by omega) (hT5 _ (Kx.refl _ _ _)) cV cT cU Z (BT + 3) (by omega) ⟨by omega, hZ1 _ (by omega)⟩ ⟨by omega, hZ1 _ (by omega)⟩ ⟨by omega, hZ1 _ (by omega)⟩ hT5) (by omega) (Below.refl _ _) rfl
      (fun pre W => (∃ v', Boxed W (w.heap.size + 1) KQ.S v' ∧ W.ownsRow (w.heap.size + 2) KQ.E KQ.sz v' (rawL g M n ++ pre.filterMap (prO g M)).length (KQ.flat (rawL g M n ++ pre.filterMap (prO g M))) ∧ (v'.ownBlock = v.ownBlock ∨ ∃ r, BT + 3 ≤ r ∧ v'.ownBlock = some r)) ∧ Kx Z (BT + 3) w5 W)
      (OwnFrom.and (Own.from (holdsRow_own (w.heap.size + 2) (w.heap.size + 1) KQ.S KQ.E KQ.sz (fun pre : List Int => (rawL g M n ++ pre.filterMap (prO g M)).length) (fun pre => KQ.flat (rawL g M n ++ pre.filterMap (prO g M))) (fun _ v' => (v'.ownBlock = v.ownBlock ∨ ∃ r, BT + 3 ≤ r ∧ v'.ownBlock = some r))) _) (ownFrom_kx (by omega) (by omega)))
      ⟨⟨v, rv5.b, by simpa using rv5.r, .inl rfl⟩, Kx.refl _ _ _⟩
      (fun y => { tmps := #[.pointer (some ⟨x, 0, none⟩), .pointer (some ⟨w.heap.size, 0, none⟩), .slice none 0 0, .int .i64 0, .pointer (some ⟨w.heap.size + 1, 0, none⟩), .int .i64 (n : Int), .int .i64 y, undef, undef, .pointer (some ⟨x, 0, none⟩), .bool false, .pointer (some ⟨x, 0, none⟩), .int .i64 (n : Int), .bool true, u14, u15, .pointer (some ⟨x, 0, none⟩), .int .i64 (n : Int), .func (.func 73) #[] #[.pointer (some ⟨BT + 1, 0, none⟩), .pointer (some ⟨BT, 0, none⟩), .pointer (some ⟨BT + 2, 0, none⟩)], .int .i64 y, undef, undef, undef, undef, undef, undef, undef, undef, undef, undef, undef, undef, undef, undef, undef], defers := [] }) ?assign ?body ?done
    case assign =>
      intro lp y W K hK
      gi_wp2
      exact hK
    case body =>
      rintro lp pre y W ⟨⟨v', hv', hrow, hat⟩, hB⟩ hpx
      have hmem : y ∈ ls g M (n : Int) 0 := hpx.subset (by simp)
      have hTW := hT5 W hB
      have hP := CallsIn.inRound lp (hwide (n := 2) (pair_any hTW y (HS.out n HLT.out y hmem)))
      have c1 := (hB.cell (a := ⟨w.heap.size, 0, none⟩) (show w.heap.size < BT + 3 by omega) (hZ0 w.heap.size (by omega))).trans rv5.t
      have hszW : BT + 3 ≤ W.heap.size := by have := hB.size; omega
      have hpl : pre.length ≤ 1025 := by
        obtain ⟨r, hr⟩ := hpx
        have := congrArg List.length hr
        have h2 := ls_len g M (n : Int) 0
        simp at this
        omega
      have HXL := Lib.hid (show (rawL g M n ++ pre.filterMap (prO g M)).length ≤ 100000 by
        have h3 := List.length_filterMap_le (prO g M) pre
        rw [List.length_append]
        omega)
      have HROW := Lib.hid hrow
      have HV := Lib.hid hv'
      have HATT := Lib.hid hat
      have HKB := Lib.hid hB
      have hc := hv'.cell
      obtain ⟨O, hO⟩ : ∃ O, O = prO g M y := ⟨_, rfl⟩
      rw [← hO] at hP
      have HO := Lib.hid hO
      clear hO hrow hv' hat hB hpx hmem hTW hT5 cT cV cU hlen HS HAS HN CHn
      cases O with
      | none =>
        simp only [pqV] at hP
        have CP := Lib.hid hP
        clear hP
        have HFM := Lib.hid (show (pre ++ [y]).filterMap (prO g M) = pre.filterMap (prO g M) by rw [List.filterMap_append, List.filterMap_cons, ← HO.out]; simp)
        gi_wp2_with (gi_at_call 45; refine CP.out.mono ?_; rintro e w2 ⟨rfl, hb2⟩)
        have hb3 : Below W.heap.size W (w2.alloc (.cells #[.int .u64 0, .int .u64 0] 38)) := hb2.trans ((bel_alloc (Below.refl _ w2) _).mono hb2.size)
        refine ⟨KeepsFrom.of_grownBy (grown_below hb3) (fun j e => by cases e), Kx.of_below (hb3.mono hszW), ⟨v', (hb3.block _ (by omega)).trans HV.out, ?_, HATT.out⟩, HKB.out.trans (Kx.of_below (hb3.mono hszW))⟩
        rw [HFM.out]
        exact KQ.own_keep HROW.out fun g e => hb3.block _ (HROW.out.lt g e).2
      | some o =>
        obtain ⟨a, b⟩ := o
        simp only [pqV] at hP
        have CP := Lib.hid hP
        clear hP
        have HFM := Lib.hid (show (pre ++ [y]).filterMap (prO g M) = pre.filterMap (prO g M) ++ [(a, b)] by rw [List.filterMap_append, List.filterMap_cons, ← HO.out]; simp)
        gi_wp2_with (first | (gi_at_call 45; refine CP.out.mono ?_; rintro e w2 ⟨rfl, hb2⟩; have hc2 := (hb2.cell (p := ⟨w.heap.size + 1, 0, none⟩) (show w.heap.size + 1 < W.heap.size by omega)).trans hc; have hlt2 : w.heap.size + 1 < w2.heap.size := by have := hb2.size; omega) | (gi_at_builtin; (obtain ⟨W3, hW3⟩ : ∃ W3, W3 = w2.alloc (.cells #[.int .u64 a, .int .u64 b] 38) := ⟨_, rfl⟩; have hs3 : W3.heap.size = w2.heap.size + 1 := (by rw [hW3, World.size_alloc]); have hb3 : Below W.heap.size W W3 := (by rw [hW3]; exact hb2.trans ((bel_alloc (Below.refl _ w2) _).mono hb2.size)); have hv3 : Boxed W3 (w.heap.size + 1) KQ.S v' := (hb3.block _ (by omega)).trans HV.out; have row3 := KQ.own_keep HROW.out (fun g e => hb3.block _ (HROW.out.lt g e).2); rw [← hW3]; refine kq_app rfl (.tmp 27) (.tmp 29) rfl W3 (w.heap.size + 2) v' (rawL g M n ++ pre.filterMap (prO g M)) (a, b) #[.int .u64 a, .int .u64 b] rfl rfl (by rw [hs3]; rfl) row3 HXL.out (by have := hb3.size; omega) ?_; intro v2 w4 hown' hgrow hat4; obtain ⟨g', cap', rfl⟩ := ownsRow_succ hown'; obtain ⟨hv1, hv2, hr2, hk2, hb4⟩ := box_app (n₀ := BT + 3) hv3 (show (KQ.S : Nat) ≠ KQ.E by decide) row3 (by have := hb3.size; omega) hown' hgrow; have hc1 := hv1.cell; have hf1 := hv1.frozen; clear hc hc2)))
        simp only [List.length_append] at hv2 hr2 hk2 hb4
        have kx4 : Kx Z (BT + 3) W _ := (Kx.of_below (hb3.mono hszW)).trans ⟨hb4.os, hb4.tape, hb4.output, hb4.size, fun i hi hz => hb4.block i hi (fun q => by
          rw [hZ] at hz
          rcases q with q | q
          · exact hz (.inl q)
          · rcases HATT.out with h | ⟨r, hr, h⟩
            · exact hz (.inr (h.symm.trans q))
            · rw [h] at q
              cases q
              omega)⟩
        refine ⟨(KeepsFrom.of_grownBy (grown_below hb3) (fun j e => by cases e)).trans (hk2.from _), kx4, ⟨_, hv2, ?_, ?_⟩, HKB.out.trans kx4⟩
        · rw [HFM.out, ← List.append_assoc]
          simp only [List.length_append, List.length_singleton]
          exact hr2
        · rcases hat4 with e | e
          · rcases HATT.out with h | ⟨r, hr, h⟩
            · exact .inl (e.trans h)
            · exact .inr ⟨r, hr, e.trans h⟩
          · exact .inr ⟨_, by have := hb3.size; omega, e⟩
    case done =>
      rintro D W hD ⟨⟨v', hv', hrow, hat⟩, hB⟩ hK
      have rvN : Rv w x (rawL g M (n + 1)) v' W := ⟨hv', hrow, (hB.cell (a := ⟨w.heap.size, 0, none⟩) (show w.heap.size < BT + 3 by omega) (hZ0 w.heap.size (by omega))).trans rv5.t, rv5.k.trans (hB.below (N := w.heap.size) (fun i hi => hZ0 i (by omega)) (by omega)), by have := hB.size; omega⟩
      have hnz : ∀ D', w.heap.size + 2 ≤ D' → w5.heap[D']? = some (.deferred (some [])) → ¬ Z D' := fun D' h1 h2 h3 => by
        rw [hZ] at h3
        rcases h3 with h3 | h3
        · omega
        · rcases rv5.r.2 with ⟨rfl, _⟩ | ⟨g', cap, cur, rfl, _, hgb, _⟩
          · simp [Value.ownBlock] at h3
          · obtain rfl : g' = D' := by simpa [Value.ownBlock] using h3
            rw [h2] at hgb
            cases hgb
      have mkN : Mk (w.heap.size + 2) ({ target := .collected D, args := #[] } :: ds) W := by
        refine ⟨List.nodup_cons.2 ⟨fun hm => ?_, mk5.1⟩, fun d hd => ?_⟩
        · obtain ⟨D', e, h1, h2⟩ := mk5.2 _ hm
          have := (Array.getElem?_eq_some_iff.1 h1).1
          cases e
          omega
        · rcases List.mem_cons.1 hd with rfl | hd
          · exact ⟨D, rfl, hK, by omega⟩
          · obtain ⟨D', e, h1, h2⟩ := mk5.2 _ hd
            have h3 := (Array.getElem?_eq_some_iff.1 h1).1
            exact ⟨D', e, (hB.block D' (by omega) (hnz D' h2 h1)).trans h1, h2⟩
      have HRN := Lib.hid rvN
      have HMN := Lib.hid mkN
      have hw1 : IntKind.i64.wrap ((n : Int) + 1) = (n : Int) + 1 := IntWalk.i64_in _ (by omega)
      clear rvN mkN hnz hrow hv' hat hB hK hT5 cT cV cU
      gi_wp2
      refine ⟨⟨n + 1, v', _, _, _, _, _, _, _, _, _, HLT.out, HRN.out, HMN.out, rfl⟩, ?_⟩
      have := HLT.out
      simp [intOf]
      omega
  · have e : n = g.D := by omega
    subst e
    rw [hasB_ge (Nat.le_refl _)] at CHn
    obtain ⟨hl, A, c, rfl, hnc, hrd, hAc, hAb⟩ := KQ.row hrv.r
    have hle := hrv.s
    have cB := hrv.b.cell
    clear hlt CH hrv hmk
    gi_wp2_with fail
    refine CHn.out.mono ?_
    rintro e w1 ⟨rfl, hb1⟩
    have c2 := (hb1.cell (p := ⟨w.heap.size + 1, 0, none⟩) (show w.heap.size + 1 < wr.heap.size by omega)).trans cB
    have hrd1 := hrd.below hb1
    have CS0 := hwide (n := 4) (sort_any (c := c) hrd1 rfl HN.out HAS.out)
    unfold fC at CS0
    have CS := Lib.hid CS0
    have HB1 := Lib.hid hb1
    have HR1 := Lib.hid hrd1
    clear CS0 hb1 hrd1 c1 cB hrd
    gi_wp2_with fail
    refine CS.out.mono ?_
    rintro e w2 ⟨rfl, hb2⟩
    have hb12 := HB1.out.trans (hb2.mono HB1.out.size)
    have c3 := (hb2.cell (p := ⟨w.heap.size + 1, 0, none⟩) (show w.heap.size + 1 < w1.heap.size by have := HB1.out.size; omega)).trans c2
    have CC0 := hwide (n := 4) (compact_any (c := c) (HR1.out.below hb2) rfl (by have := HN.out; omega) HAS.out)
    unfold fE at CC0
    have CC := Lib.hid CC0
    have HB12 := Lib.hid hb12
    clear CC0 hb2 hb12 c2 CS
    gi_wp2_with fail
    refine CC.out.mono ?_
    rintro e w3 ⟨rfl, hb3⟩
    have HB13 := Lib.hid (HB12.out.trans (hb3.mono HB12.out.size))
    clear hb3 c3 CC
    gi_wp2
    refine leave_marks (B := w.heap.size + 2) (fun W' => W'.ownsRow (w.heap.size + 2) KQ.E KQ.sz (.slice A (rawL g M g.D).length c) (rawL g M g.D).length (KQ.flat (rawL g M g.D)) ∧ Below w.heap.size w W') ?_ ?_ ds _ (HMK.out.below HB13.out) ?_
    · rintro W D hD hd ⟨h1, h2⟩
      exact ⟨ownsRow_putObj h1 _ hd rfl, h2.trans ⟨rfl, rfl, rfl, by simp, fun i hi => World.putObj_heap_other (by omega)⟩⟩
    · rintro W ⟨h1, h2⟩
      exact ⟨_, results_tmp2 rfl _ _ _, ⟨_, rfl, Ly.row_base h1 (by omega)⟩, h2⟩
    · have h3 := HRV.out.below HB13.out
      exact ⟨h3.r, h3.k⟩
/-- what Pairs hands out -/
def PrP (g : Ge) (M : Wm) (w : World) (e : Ending) (w' : World) : Prop := ∃ A c, e = .returned (.tuple #[.slice A (rawL g M g.D).length c, .int .i64 0]) ∧ KQ.Rd w' A (rawL g M g.D) ∧ Below w.heap.size w w'
theorem pairs_any (hT : Tt w x bm p q bl f l g M) (hS : ∀ v : Nat, v < g.D → ∀ y, y ∈ ls g M (v : Int) 0 → StOk g M y) (hs : As (rawL g M g.D)) (hn : (rawL g M g.D).length < 20) : Calls Try.prog 19 #[.pointer (some ⟨x, 0, none⟩)] w (PrP g M w) := by
  refine (callsIn_wide.1 (pairs_in Fence.wide (fun _ => trivial) rfl (fun h => callsIn_wide.2 h) hT hS hs hn)).mono ?_
  rintro e w' ⟨⟨v', rfl, hr⟩, hb⟩
  obtain ⟨_, A, c, rfl, _, r, _⟩ := KQ.row hr
  exact ⟨A, c, rfl, r, hb⟩
theorem pairs_nil (w : World) : Calls Try.prog 19 #[.pointer none] w fun e w' => (e = .returned (.tuple #[.slice none 0 0, .int .i64 1])) ∧ Below w.heap.size w w' := by
  go_enter Try.func19, Try.ntmps19
  go_wp2
  go_ret2
  exact ⟨rfl, bel_alloc (Below.refl _ _) _⟩
end
end Tw
end Go.Proofs.Ytjcbjbhlclajnaa
