/- Package history: add of the past: contract of the translated code. Conditions: a thread from 0 to 63, numbers of their types, at most 100,000 calls. -/
import Derived.Test.YtgfhfcjjodcgdaaHiP
namespace Go.Proofs.Ytgfhfcjjodcgdaa
open Go.RowKit Go.Shelf Go.Sort
set_option linter.unusedVariables false
set_option linter.unusedSimpArgs false
attribute [local go_sem] Oper.semAt_some
namespace Hi
theorem ldSt {ops : Array Oper} {rest : List Oper} {op : Oper} {a : Act} {w : World} {Q : Act → Prop} (hgd : op.guard = none) (p : Operand) (ho : op.op = .load 47 p) (b o : Nat) (hp : a.eval p = .pointer (some ⟨b, o, none⟩)) (x : C) (hx : KC.At w b o x)
    (h : wpStill Try.prog ops w Q rest (a.put op.dst (.agg #[.int .i64 x.t, .int .i64 x.i, .int .u8 x.k, .int .u64 x.p0, .int .u64 x.p1, .int .u64 x.p2, .int .u64 x.p3, .int .u64 x.p4, .int .u64 x.p5, .int .i64 x.v, .int .i64 x.u, .int .i64 x.a, .int .i64 x.s, .int .i64 x.re, .bool x.rf, .int .u64 x.rk, .int .u64 x.rv, .int .i64 x.rc]))) : wpStill Try.prog ops w Q (op :: rest) a := by
  unfold wpStill
  rw [if_pos (by simp [Region.wanted, hgd])]
  unfold Oper.still execOp
  simp only [ho, hp, Instr.loadAt, Instr.sureAddr, Sem.run_bind, Sem.run_pure, Result.andThen_ok, run_loadVar_mid w b o 47 [.int .i64 x.t, .int .i64 x.i, .int .u8 x.k, .int .u64 x.p0, .int .u64 x.p1, .int .u64 x.p2, .int .u64 x.p3, .int .u64 x.p4, .int .u64 x.p5, .int .i64 x.v, .int .i64 x.u, .int .i64 x.a, .int .i64 x.s, .int .i64 x.re, .bool x.rf, .int .u64 x.rk, .int .u64 x.rv, .int .i64 x.rc] _ hx Try.underlying47 rfl sz_call]
  exact ⟨rfl, h⟩
theorem addr_ne {B o o' : Nat} (h : o ≠ o') : (⟨B, o, none⟩ : Addr) ≠ ⟨B, o', none⟩ := fun e => h (by injection e)
/-- the world of add behind its stores into the block B, as far as the other blocks go -/
structure Ad (w V : World) (B : Nat) (x : C) : Prop where
  size : V.heap.size = w.heap.size + 2
  b2 : V.heap[w.heap.size]? = some (.cells #[.pointer (some ⟨B, 0, none⟩)] 63 (0, 0))
  b3 : V.heap[w.heap.size + 1]? = some (.cells #[.int .i64 x.t, .int .i64 x.i, .int .u8 x.k, .int .u64 x.p0, .int .u64 x.p1, .int .u64 x.p2, .int .u64 x.p3, .int .u64 x.p4, .int .u64 x.p5, .int .i64 x.v, .int .i64 x.u, .int .i64 x.a, .int .i64 x.s, .int .i64 x.re, .bool x.rf, .int .u64 x.rk, .int .u64 x.rv, .int .i64 x.rc] 47 (0, 0))
  oth : ∀ k, k < w.heap.size → k ≠ B → V.heap[k]? = w.heap[k]?
  os : V.os = w.os
  tape : V.tape = w.tape
  output : V.output = w.output
theorem Ad.c2 {w V : World} {B : Nat} {x : C} (h : Ad w V B x) : V.cell? ⟨w.heap.size, 0, none⟩ = some (.pointer (some ⟨B, 0, none⟩)) := by simp [World.cell?, h.b2]
theorem Ad.c3 {w V : World} {B : Nat} {x : C} (h : Ad w V B x) : KC.At V (w.heap.size + 1) 0 x := fun j u hj => by
  simp only [World.cell?, h.b3, Nat.zero_add]
  simpa [KC] using hj
theorem Ad.t {w V : World} {B : Nat} {x : C} (h : Ad w V B x) : V.cell? ⟨w.heap.size + 1, 0, none⟩ = some (.int .i64 x.t) := by simp [World.cell?, h.b3]
theorem Ad.drew {w V : World} {B : Nat} {x : C} (h : Ad w V B x) : Ad w V.drew B x := ⟨h.size, h.b2, h.b3, h.oth, h.os, h.tape, h.output⟩
theorem Ad.set {w V : World} {B : Nat} {x : C} (h : Ad w V B x) (hB : B < w.heap.size) (o : Nat) (v : Value) : Ad w (V.setCell ⟨B, o, none⟩ v) B x :=
  ⟨by simpa using h.size, (Below.heap_setCell V ⟨B, o, none⟩ v w.heap.size (by show w.heap.size ≠ B; omega)).trans h.b2, (Below.heap_setCell V ⟨B, o, none⟩ v (w.heap.size + 1) (by show w.heap.size + 1 ≠ B; omega)).trans h.b3,
    fun k hk hn => (Below.heap_setCell V ⟨B, o, none⟩ v k hn).trans (h.oth k hk hn), h.os, h.tape, h.output⟩
theorem Ad.sets {w : World} {B : Nat} {x : C} (hB : B < w.heap.size) : ∀ (vs : List Value) {V : World} (h : Ad w V B x) (o : Nat), Ad w (V.setCells B o vs) B x
  | [], V, h, o => h
  | v :: r, V, h, o => Ad.sets hB r (h.set hB o v) (o + 1)
/-- the cells of the past behind the three stores -/
theorem Pa.added {w V : World} {B M : Nat} {l : List C} {x : C} (hP : Pa w B M l) (h0 : 0 ≤ x.t) (h1 : x.t < 64) (c0 : V.cell? ⟨B, 0, none⟩ = some (.int .i64 x.v)) (cT : V.cell? ⟨B, 1 + x.t.toNat, none⟩ = some (.int .i64 (((ofT x.t l).length : Nat) + 1)))
    (cL : KC.At V B (65 + x.t.toNat * 18) x) (co : ∀ o, o ≠ 0 → o ≠ 1 + x.t.toNat → (o < 65 + x.t.toNat * 18 ∨ 65 + x.t.toNat * 18 + 18 ≤ o) → V.cell? ⟨B, o, none⟩ = w.cell? ⟨B, o, none⟩) (ht : V.there B 0 1218) {k : Nat} (hO : Ow V M k (own (l ++ [x]))) (hk : k ≤ 3 * (l.length + 1)) : Pa V B M (l ++ [x]) := by
  have hlen : ∀ T : Nat, T < 64 → ofT (T : Int) (l ++ [x]) = if (T : Int) = x.t then ofT (T : Int) l ++ [x] else ofT (T : Int) l := fun T hT => by
    unfold ofT
    rw [List.filter_append]
    by_cases e : (T : Int) = x.t
    · rw [if_pos e, List.filter_cons_of_pos (by simpa using e.symm)]; rfl
    · rw [if_neg e, List.filter_cons_of_neg (by simpa using fun h => e h.symm)]; simp
  refine ⟨by rw [c0]; simp [prevV], fun T hT => ?_, fun T hT p hp => ?_, ?_, ht, hO.mono (by simp; omega), hP.ne⟩
  · rw [hlen T hT]
    by_cases e : (T : Int) = x.t
    · obtain rfl : T = x.t.toNat := by omega
      rw [if_pos e, cT, e]; simp
    · rw [if_neg e, co _ (by omega) (by omega) (by left; omega)]
      exact hP.cnt T hT
  · rw [hlen T hT] at hp
    by_cases e : (T : Int) = x.t
    · obtain rfl : T = x.t.toNat := by omega
      rw [if_pos e] at hp
      simp at hp
      subst hp
      exact cL
    · rw [if_neg e] at hp
      intro j u hj
      have hj18 : j < 18 := by have := (List.getElem?_eq_some_iff.1 hj).1; simpa [KC] using this
      rw [co _ (by omega) (by omega) (by omega)]
      exact hP.lst T hT p hp j u hj
  · rw [co _ (by omega) (by omega) (by right; omega)]
    exact hP.mp
/-- nothing has changed but the blocks B and M -/
structure Aft (B M : Nat) (w w' : World) : Prop where
  blk : ∀ k, k < w.heap.size → k ≠ B → k ≠ M → w'.heap[k]? = w.heap[k]?
  size : w.heap.size ≤ w'.heap.size
  os : w'.os = w.os
  tape : w'.tape = w.tape
  output : w'.output = w.output
/-- the map with the steps that have come -/
def owP (x : C) (f : Int → Option Int) (pre : List (Fin 3)) (z : Int) : Option Int := if pre.any (fun j => decide (sel x j = z)) then some x.t else f z
theorem owP_nil (x : C) (f : Int → Option Int) : owP x f [] = f := by funext z; rfl
theorem owP_snoc (x : C) (f : Int → Option Int) (pre : List (Fin 3)) (j : Fin 3) : owP x f (pre ++ [j]) = fun z => if z = sel x j then some x.t else owP x f pre z := by
  funext z
  unfold owP
  rw [List.any_append]
  by_cases e : z = sel x j
  · subst e; simp
  · simp [e, Ne.symm e]
theorem owP_all (x : C) (l : List C) : owP x (own l) (spL x) = own (l ++ [x]) := by
  funext z
  rw [own_snoc]
  unfold owP
  rw [stp_spL]
  congr 1
  simp
theorem ownFrom_ow {β : Type} {M B : Nat} {k : β → Nat} {f : β → Int → Option Int} (hM : M < B) : OwnFrom B (fun s W => Ow W M (k s) (f s)) := fun s W W' row h hg hr =>
  h.same (hg.block M h.lt (fun e => by have := (hr M e.symm).1; omega))
theorem ownFrom_grown {β : Type} {M B : Nat} {w0 : World} (hB : w0.heap.size ≤ B) : OwnFrom B (fun (_ : β) W => w0.grownBy W (some M)) := fun s W W' row h hg hr =>
  ⟨hg.os.trans h.os, hg.tape.trans h.tape, hg.output.trans h.output, Nat.le_trans h.size hg.size, fun k hk hn => (hg.block k (Nat.lt_of_lt_of_le hk h.size) (fun e => by have := (hr k e.symm).1; omega)).trans (h.block k hk hn)⟩
set_option maxRecDepth 100000 in
set_option maxHeartbeats 2000000 in
theorem add_any (x : C) (B M : Nat) (l : List C) (w : World) (hP : Pa w B M l) (h0 : 0 ≤ x.t) (h1 : x.t < 64) (hl : l.length ≤ 100000) (hb : Bd1 x) :
    Calls Try.prog 34 #[.pointer (some ⟨B, 0, none⟩), .agg #[.int .i64 x.t, .int .i64 x.i, .int .u8 x.k, .int .u64 x.p0, .int .u64 x.p1, .int .u64 x.p2, .int .u64 x.p3, .int .u64 x.p4, .int .u64 x.p5, .int .i64 x.v, .int .i64 x.u, .int .i64 x.a, .int .i64 x.s, .int .i64 x.re, .bool x.rf, .int .u64 x.rk, .int .u64 x.rv, .int .i64 x.rc]] w fun e w' => e = .returned (.tuple #[]) ∧ Aft B M w w' ∧ Pa w' B M (l ++ [x]) := by
  refine (callsIn_wide (n := 3)).1 ?_
  refine callsIn_of_wp_marks Try.func34 rfl trivial ?_ rfl
  simp only [Try.ntmps34, List.size_toArray, List.length_cons, List.length_nil, Nat.reduceAdd, Nat.reduceSub, Array.replicate_succ, Array.replicate_zero, List.push_toArray, List.append_toArray, List.nil_append, List.cons_append]
  refine wpIn_wide.2 ?_
  have PA := Lib.hid hP
  have q0 := hP.inv
  have f0 := (hP.there 0 (by omega)).2
  have hB := hP.lt.1
  have hM := hP.lt.2
  have hne := hP.ne
  have hle : (ofT x.t l).length ≤ 100000 := Nat.le_trans (List.length_filter_le _ _) hl
  clear hP
  go_upto_region 2 with fail
  obtain ⟨V1, hV1⟩ : ∃ V1 : World, V1 = ((w.setCell ⟨B, 0, none⟩ (.int .i64 x.v)).alloc (.cells #[.pointer (some ⟨B, 0, none⟩)] 63)).alloc (.cells #[.int .i64 x.t, .int .i64 x.i, .int .u8 x.k, .int .u64 x.p0, .int .u64 x.p1, .int .u64 x.p2, .int .u64 x.p3, .int .u64 x.p4, .int .u64 x.p5, .int .i64 x.v, .int .i64 x.u, .int .i64 x.a, .int .i64 x.s, .int .i64 x.re, .bool x.rf, .int .u64 x.rk, .int .u64 x.rv, .int .i64 x.rc] 47) := ⟨_, rfl⟩
  have a1 : Ad w V1 B x := by
    rw [hV1]
    have hs : ∀ k, k ≠ B → (w.setCell ⟨B, 0, none⟩ (.int .i64 x.v)).heap[k]? = w.heap[k]? := fun k hk => Below.heap_setCell w ⟨B, 0, none⟩ _ k hk
    refine ⟨by simp, ?_, ?_, fun k hk hn => ?_, rfl, rfl, rfl⟩
    · rw [(MapKept.heap_alloc _ _).2 _ (by simp)]
      have := (MapKept.heap_alloc (w.setCell ⟨B, 0, none⟩ (.int .i64 x.v)) (.cells #[.pointer (some ⟨B, 0, none⟩)] 63)).1
      rwa [World.size_setCell] at this
    · have := (MapKept.heap_alloc ((w.setCell ⟨B, 0, none⟩ (.int .i64 x.v)).alloc (.cells #[.pointer (some ⟨B, 0, none⟩)] 63)) (.cells #[.int .i64 x.t, .int .i64 x.i, .int .u8 x.k, .int .u64 x.p0, .int .u64 x.p1, .int .u64 x.p2, .int .u64 x.p3, .int .u64 x.p4, .int .u64 x.p5, .int .i64 x.v, .int .i64 x.u, .int .i64 x.a, .int .i64 x.s, .int .i64 x.re, .bool x.rf, .int .u64 x.rk, .int .u64 x.rv, .int .i64 x.rc] 47)).1
      rwa [World.size_alloc, World.size_setCell] at this
    · rw [(MapKept.heap_alloc _ _).2 _ (by simp; omega), (MapKept.heap_alloc _ _).2 _ (by simp; omega)]
      exact hs k hn
  have cB1 : ∀ o, V1.cell? ⟨B, o, none⟩ = (w.setCell ⟨B, 0, none⟩ (.int .i64 x.v)).cell? ⟨B, o, none⟩ := fun o => by
    rw [hV1, World.cell?_alloc_lt _ _ _ (by simp; omega), World.cell?_alloc_lt _ _ _ (by simp; omega)]
  have fB1 : ∀ o, V1.frozen? ⟨B, o, none⟩ = w.frozen? ⟨B, o, none⟩ := fun o => by
    rw [hV1, World.frozen?_alloc_past _ _ _ (by simp; omega), World.frozen?_alloc_past _ _ _ (by simp; omega), World.frozen?_setCell]
  rw [← hV1]
  clear hV1 q0 f0
  have p1 := a1.c2
  have p2 := a1.t
  have p3 : V1.cell? ⟨B, 1 + x.t.toNat, none⟩ = some (.int .i64 ((ofT x.t l).length : Nat)) := by
    rw [cB1, World.cell?_setCell_other _ _ _ _ (addr_ne (by omega))]
    exact PA.out.count h0 h1
  have p4 : V1.frozen? ⟨B, 1 + x.t.toNat, none⟩ = false := by
    rw [fB1]
    have := (PA.out.there (1 + x.t.toNat) (by omega)).2
    rwa [Nat.zero_add] at this
  obtain ⟨N, hN⟩ : ∃ N, (ofT x.t l).length = N := ⟨_, rfl⟩
  rw [hN] at p3 hle
  have A1 := Lib.hid a1
  have CB1 := Lib.hid cB1
  have FB1 := Lib.hid fB1
  have HN := Lib.hid hN
  have HL := Lib.hid hl
  clear a1 cB1 fB1 hN hl
  go_still_tail 11, (by kernel_rfl)
  go_wp2
  obtain ⟨V2, hV2⟩ : ∃ V2 : World, V2 = (V1.setCell ⟨B, 1 + x.t.toNat, none⟩ (.int .i64 ((N : Int) + 1))).drew := ⟨_, rfl⟩
  have a2 : Ad w V2 B x := by rw [hV2]; exact (A1.out.set hB _ _).drew
  have cB2 : ∀ o, o ≠ 0 → o ≠ 1 + x.t.toNat → V2.cell? ⟨B, o, none⟩ = w.cell? ⟨B, o, none⟩ := fun o h2 h3 => by
    rw [hV2, World.cell?_drew, World.cell?_setCell_other _ _ _ _ (addr_ne (by omega)), CB1.out, World.cell?_setCell_other _ _ _ _ (addr_ne (by omega))]
  have c20 : V2.cell? ⟨B, 0, none⟩ = some (.int .i64 x.v) := by
    rw [hV2, World.cell?_drew, World.cell?_setCell_other _ _ _ _ (addr_ne (by omega)), CB1.out]
    exact World.cell?_setCell_same' _ _ _ (by rw [PA.out.inv]; rfl)
  have c2T : V2.cell? ⟨B, 1 + x.t.toNat, none⟩ = some (.int .i64 ((N : Int) + 1)) := by
    rw [hV2, World.cell?_drew]
    exact World.cell?_setCell_same' _ _ _ (by rw [p3]; rfl)
  have t2 : V2.there B 0 1218 := fun j hj => by
    have hf : V2.frozen? ⟨B, 0 + j, none⟩ = w.frozen? ⟨B, 0 + j, none⟩ := by rw [hV2, World.frozen?_drew, World.frozen?_setCell, FB1.out]
    refine ⟨?_, hf.trans (PA.out.there j hj).2⟩
    by_cases e0 : j = 0
    · subst e0; rw [Nat.zero_add, c20]; rfl
    · by_cases e1 : j = 1 + x.t.toNat
      · subst e1; rw [Nat.zero_add, c2T]; rfl
      · rw [cB2 _ (by omega) (by omega)]; exact (PA.out.there j hj).1
  rw [← hV2]
  clear hV2 p1 p2 p3 p4 CB1 FB1 A1
  have p1 := a2.c2
  have p2 := a2.t
  have p5 := Lib.hid (show KC.At V2.drew (w.heap.size + 1) 0 x from a2.c3)
  have A2 := Lib.hid a2
  have CB2 := Lib.hid cB2
  have C20 := Lib.hid c20
  have C2T := Lib.hid c2T
  have T2 := Lib.hid t2
  clear a2 cB2 c20 c2T t2
  refine wp_region_still_tail 7 (by kernel_rfl) (by kernel_rfl) ?_
  simp only [List.take_succ_cons, List.take_zero, List.drop_succ_cons, List.drop_zero]
  repeat (first | (refine ldSt rfl (.tmp 3) rfl _ _ rfl x p5.out ?_) | still_step)
  refine wpStill_nil ?_
  refine wpList_store_mid rfl 47 (.tmp 27) (.tmp 24) rfl B (65 + x.t.toNat * 18) #[.int .i64 x.t, .int .i64 x.i, .int .u8 x.k, .int .u64 x.p0, .int .u64 x.p1, .int .u64 x.p2, .int .u64 x.p3, .int .u64 x.p4, .int .u64 x.p5, .int .i64 x.v, .int .i64 x.u, .int .i64 x.a, .int .i64 x.s, .int .i64 x.re, .bool x.rf, .int .u64 x.rk, .int .u64 x.rv, .int .i64 x.rc] rfl rfl (fun j hj => by
    have hj : j < 18 := hj
    have := T2.out (65 + x.t.toNat * 18 + j) (by omega)
    rw [Nat.zero_add] at this
    exact this) sz_call (oneCells x) ?_
  obtain ⟨V3, hV3⟩ : ∃ V3 : World, V3 = V2.drew.setCells B (65 + x.t.toNat * 18) (KC.enc x) := ⟨_, rfl⟩
  have a3 : Ad w V3 B x := by rw [hV3]; exact Ad.sets hB _ A2.out.drew _
  have hl18 : (KC.enc x).length = 18 := rfl
  have cO3 : ∀ o, (o < 65 + x.t.toNat * 18 ∨ 65 + x.t.toNat * 18 + 18 ≤ o) → V3.cell? ⟨B, o, none⟩ = V2.cell? ⟨B, o, none⟩ := fun o ho => by
    rw [hV3, World.cell?_setCells_out _ _ _ _ _ (fun _ _ => by rw [hl18]; exact ho)]; rfl
  have hsome : ∀ j, j < 18 → (V2.drew.cell? ⟨B, 65 + x.t.toNat * 18 + j, none⟩).isSome = true := fun j hj => by
    have := (T2.out (65 + x.t.toNat * 18 + j) (by omega)).1
    rw [Nat.zero_add] at this
    exact this
  have cL3 : KC.At V3 B (65 + x.t.toNat * 18) x := fun j u hj => by
    have hj18 : j < 18 := by have := (List.getElem?_eq_some_iff.1 hj).1; simpa [KC] using this
    rw [hV3, World.cell?_setCells_in B (KC.enc x) _ _ (fun i hi => hsome i (by rw [hl18] at hi; exact hi)) j (by rw [hl18]; exact hj18)]
    rw [← hj]
    exact (List.getElem?_eq_getElem _).symm
  have t3 : V3.there B 0 1218 := by rw [hV3]; exact World.there_setCells (show V2.drew.there B 0 1218 from T2.out) _ _ _
  show wpList _ _ _ [] _ (V2.drew.setCells B (65 + x.t.toNat * 18) (KC.enc x))
  rw [← hV3]
  have c30 : V3.cell? ⟨B, 0, none⟩ = some (.int .i64 x.v) := (cO3 0 (by omega)).trans C20.out
  have c3T : V3.cell? ⟨B, 1 + x.t.toNat, none⟩ = some (.int .i64 ((N : Int) + 1)) := (cO3 _ (by omega)).trans C2T.out
  have m3 : V3.cell? ⟨B, 1217, none⟩ = some (.map (some M)) := ((cO3 _ (by omega)).trans (CB2.out _ (by omega) (by omega))).trans PA.out.mp
  have o3 : Ow V3 M (3 * l.length) (own l) := PA.out.ow.same (a3.oth M hM hne.symm)
  have cB3 : ∀ o, o ≠ 0 → o ≠ 1 + x.t.toNat → (o < 65 + x.t.toNat * 18 ∨ 65 + x.t.toNat * 18 + 18 ≤ o) → V3.cell? ⟨B, o, none⟩ = w.cell? ⟨B, o, none⟩ := fun o e1 e2 e3 => (cO3 o e3).trans (CB2.out o e1 e2)
  clear hV3 hsome cO3
  have A3 := Lib.hid a3
  have CL3 := Lib.hid cL3
  have T3 := Lib.hid t3
  have C30 := Lib.hid c30
  have C3T := Lib.hid c3T
  have M3 := Lib.hid m3
  have O3 := Lib.hid o3
  have CB3 := Lib.hid cB3
  have L3 := Lib.hid a3.c3
  clear a3 cL3 t3 c30 c3T m3 o3 cB3 A2 CB2 C20 C2T T2 p1 p2 p5
  go_wp2_with (first | (refine ld rfl (.tmp 3) rfl _ _ rfl x L3.out ?_) | (go_at_call 56; refine ((callsIn_wide (n := 3)).1 (steps_in Fence.wide 3 trivial rfl x _)).mono ?_; rintro e w' ⟨rfl, rfl⟩))
  obtain ⟨W0, hW0⟩ : ∃ W0 : World, W0 = V3.alloc (.cells #[.int .i64 x.t, .int .i64 x.i, .int .u8 x.k, .int .u64 x.p0, .int .u64 x.p1, .int .u64 x.p2, .int .u64 x.p3, .int .u64 x.p4, .int .u64 x.p5, .int .i64 x.v, .int .i64 x.u, .int .i64 x.a, .int .i64 x.s, .int .i64 x.re, .bool x.rf, .int .u64 x.rk, .int .u64 x.rv, .int .i64 x.rc] 47) := ⟨_, rfl⟩
  have hs3 : V3.heap.size ≤ w.heap.size + 2 := Nat.le_of_eq A3.out.size
  have hs3' : w.heap.size + 2 ≤ V3.heap.size := Nat.le_of_eq A3.out.size.symm
  have hsz : w.heap.size + 3 ≤ W0.heap.size := by rw [hW0]; simp; omega
  have hg0 : ∀ k, k < V3.heap.size → W0.heap[k]? = V3.heap[k]? := fun k hk => by rw [hW0]; exact (MapKept.heap_alloc _ _).2 _ hk
  have bC : KC.At W0 V3.heap.size 0 x := by rw [hW0]; exact KC.at_new V3 x
  have b2 : W0.heap[w.heap.size]? = some (.cells #[.pointer (some ⟨B, 0, none⟩)] 63 (0, 0)) := (hg0 _ (by omega)).trans A3.out.b2
  have b3 : W0.heap[w.heap.size + 1]? = some (.cells #[.int .i64 x.t, .int .i64 x.i, .int .u8 x.k, .int .u64 x.p0, .int .u64 x.p1, .int .u64 x.p2, .int .u64 x.p3, .int .u64 x.p4, .int .u64 x.p5, .int .i64 x.v, .int .i64 x.u, .int .i64 x.a, .int .i64 x.s, .int .i64 x.re, .bool x.rf, .int .u64 x.rk, .int .u64 x.rv, .int .i64 x.rc] 47 (0, 0)) := (hg0 _ (by omega)).trans A3.out.b3
  have o0 : Ow W0 M (3 * l.length) (own l) := O3.out.same (hg0 _ (by omega))
  have mp0 : W0.cell? ⟨B, 1217, none⟩ = some (.map (some M)) := (World.cell?_of_block (a := ⟨B, 1217, none⟩) (hg0 B (by omega))).trans M3.out
  have hX : ∀ b, (fun b => b = V3.heap.size) b → b < W0.heap.size := fun b hb => by
    have hb : b = V3.heap.size := hb
    omega
  have HS := Lib.hid (steps_stops Fence.wide (fun _ => trivial) rfl 2 (by omega) V3.heap.size x (fun b => b = V3.heap.size) W0 bC)
  rw [← hW0]
  refine (wpIn_wide (n := 3)).1 ?_
  refine wpIn_rangeFunc_ownG rfl (by omega) (gf := 66) (lb := #[.pointer (some ⟨V3.heap.size, 0, none⟩)]) rfl trivial (enters_of Try.func66 (by kernel_rfl) rfl)
    HS.out KX.trans (KX.put hX) (Below.refl _ _) (fun _ => rfl)
    (fun pre W => Ow W M (3 * l.length + pre.length) (owP x (own l) pre) ∧ W0.grownBy W (some M))
    (fun _ _ _ => False)
    (OwnFrom.and (ownFrom_ow (by omega)) (ownFrom_grown (Nat.le_refl _)))
    (fun cc => fun _ _ _ _ hs _ _ => hs)
    ⟨by rw [owP_nil]; exact o0, ⟨rfl, rfl, rfl, Nat.le_refl _, fun _ _ _ => rfl⟩⟩
    (fun j => { tmps := #[.pointer (some ⟨B, 0, none⟩), .agg #[.int .i64 x.t, .int .i64 x.i, .int .u8 x.k, .int .u64 x.p0, .int .u64 x.p1, .int .u64 x.p2, .int .u64 x.p3, .int .u64 x.p4, .int .u64 x.p5, .int .i64 x.v, .int .i64 x.u, .int .i64 x.a, .int .i64 x.s, .int .i64 x.re, .bool x.rf, .int .u64 x.rk, .int .u64 x.rv, .int .i64 x.rc], .pointer (some ⟨w.heap.size, 0, none⟩), .pointer (some ⟨w.heap.size + 1, 0, none⟩), .int .i64 (sel x j), .pointer (some ⟨B, 0, none⟩), .pointer (some ⟨w.heap.size + 1, 9, none⟩), .int .i64 x.v, .pointer (some ⟨B, 0, none⟩), .pointer (some ⟨B, 0, none⟩), .pointer (some ⟨B, 0, none⟩), .pointer (some ⟨w.heap.size + 1, 0, none⟩), .int .i64 x.t, .pointer (some ⟨B, 0, none⟩), .pointer (some ⟨B, 1, none⟩), .pointer (some ⟨B, 1 + x.t.toNat, none⟩), .int .i64 (N : Int), .int .i64 ((N : Int) + 1), .pointer (some ⟨B, 0, none⟩), .pointer (some ⟨B, 1, none⟩), .pointer (some ⟨B, 1 + x.t.toNat, none⟩), .pointer (some ⟨B, 0, none⟩), .pointer (some ⟨w.heap.size + 1, 0, none⟩), .int .i64 x.t, .agg #[.int .i64 x.t, .int .i64 x.i, .int .u8 x.k, .int .u64 x.p0, .int .u64 x.p1, .int .u64 x.p2, .int .u64 x.p3, .int .u64 x.p4, .int .u64 x.p5, .int .i64 x.v, .int .i64 x.u, .int .i64 x.a, .int .i64 x.s, .int .i64 x.re, .bool x.rf, .int .u64 x.rk, .int .u64 x.rv, .int .i64 x.rc], .pointer (some ⟨B, 0, none⟩), .pointer (some ⟨B, 65, none⟩), .pointer (some ⟨B, 65 + x.t.toNat * 18, none⟩), .agg #[.int .i64 x.t, .int .i64 x.i, .int .u8 x.k, .int .u64 x.p0, .int .u64 x.p1, .int .u64 x.p2, .int .u64 x.p3, .int .u64 x.p4, .int .u64 x.p5, .int .i64 x.v, .int .i64 x.u, .int .i64 x.a, .int .i64 x.s, .int .i64 x.re, .bool x.rf, .int .u64 x.rk, .int .u64 x.rv, .int .i64 x.rc], .func (.func 66) #[] #[.pointer (some ⟨V3.heap.size, 0, none⟩)], .int .i64 (sel x j), undef, undef, undef, undef, undef, undef, undef], defers := [] }) ?assign ?body ?done ?stop
  case assign =>
    intro l' j W K hK
    gi_wp2
    exact hK
  case body =>
    rintro l' pre j W ⟨hO, hg⟩ hlt
    have g2 : W.heap[w.heap.size]? = some (.cells #[.pointer (some ⟨B, 0, none⟩)] 63 (0, 0)) := (hg.block _ (by omega) (by simp; omega)).trans b2
    have g3 : W.heap[w.heap.size + 1]? = some (.cells #[.int .i64 x.t, .int .i64 x.i, .int .u8 x.k, .int .u64 x.p0, .int .u64 x.p1, .int .u64 x.p2, .int .u64 x.p3, .int .u64 x.p4, .int .u64 x.p5, .int .i64 x.v, .int .i64 x.u, .int .i64 x.a, .int .i64 x.s, .int .i64 x.re, .bool x.rf, .int .u64 x.rk, .int .u64 x.rv, .int .i64 x.rc] 47 (0, 0)) := (hg.block _ (by omega) (by simp; omega)).trans b3
    have c2 : W.cell? ⟨w.heap.size, 0, none⟩ = some (.pointer (some ⟨B, 0, none⟩)) := by simp [World.cell?, g2]
    have c3 : W.cell? ⟨w.heap.size + 1, 0, none⟩ = some (.int .i64 x.t) := by simp [World.cell?, g3]
    have cm : W.cell? ⟨B, 1217, none⟩ = some (.map (some M)) := (World.cell?_of_block (a := ⟨B, 1217, none⟩) (hg.block B (by omega) (by simp; omega))).trans mp0
    have hpl : pre.length < 3 := Nat.lt_of_lt_of_le hlt (spK_len x 3)
    have HLL := HL.out
    obtain ⟨W', hrun, hO', hg'⟩ := (show Ow W.drew M (3 * l.length + pre.length) (owP x (own l) pre) from hO).put (by unfold maxLen; omega) (sel_bd hb j) hb.t
    rw [← owP_snoc] at hO'
    have G := Lib.hid hg
    have G' := Lib.hid (show W.grownBy W' (some M) from ⟨hg'.os, hg'.tape, hg'.output, hg'.size, hg'.block⟩)
    have O' := Lib.hid hO'
    have hmx : Try.prog.follows .mixedOrders = true := by kernel_rfl
    clear hg hg' hO' hO g2 g3 HS
    gi_wp2
    gi_region_with_o (fail)
    all_goals gi_wp2
    all_goals exact ⟨KeepsFrom.of_grownBy G'.out (fun j' e => by cases e; omega), KX.grown (n := W.heap.size) (fun b hb => by have hb : b = V3.heap.size := hb; have := G.out.size; omega) (Nat.le_refl _) G'.out (by omega), by rw [List.length_append]; exact O'.out, G'.out.os.trans G.out.os, G'.out.tape.trans G.out.tape, G'.out.output.trans G.out.output, Nat.le_trans G.out.size G'.out.size, fun k hk hn => (G'.out.block k (Nat.lt_of_lt_of_le hk G.out.size) hn).trans (G.out.block k hk hn)⟩
  case stop =>
    rintro D c pre W _ _ h _
    exact h.elim
  case done =>
    rintro D ys W hD rfl ⟨hO, hg⟩ hK
    rw [owP_all] at hO
    have hDB : ∀ k, k < W0.heap.size → k ≠ M → (W.putObj D (.deferred none)).heap[k]? = W0.heap[k]? := fun k hk hn => (World.putObj_heap_other (by omega)).trans (hg.block k hk (by simpa using hn))
    have hDM : (W.putObj D (.deferred none)).heap[M]? = W.heap[M]? := World.putObj_heap_other (by omega)
    have hblk : (W.putObj D (.deferred none)).heap[B]? = V3.heap[B]? := (hDB B (by omega) hne).trans (hg0 B (by omega))
    have hc : ∀ o, (W.putObj D (.deferred none)).cell? ⟨B, o, none⟩ = V3.cell? ⟨B, o, none⟩ := fun o => World.cell?_of_block (a := ⟨B, o, none⟩) hblk
    have hf : ∀ o, (W.putObj D (.deferred none)).frozen? ⟨B, o, none⟩ = V3.frozen? ⟨B, o, none⟩ := fun o => World.frozen?_of_block (a := ⟨B, o, none⟩) hblk
    have hpa := Lib.hid (PA.out.added h0 h1 ((hc _).trans C30.out) (by rw [HN.out]; exact (hc _).trans C3T.out) (CL3.out.keep hblk) (fun o e1 e2 e3 => (hc o).trans (CB3.out o e1 e2 e3)) (fun j hj => by rw [hc, hf]; exact T3.out j hj) (hO.same hDM) (by have := spK_len x 3; unfold spL; omega))
    have haft := Lib.hid (show Aft B M w (W.putObj D (.deferred none)) from ⟨fun k hk h2 h3 => (hDB k (by omega) h3).trans ((hg0 k (by omega)).trans (A3.out.oth k hk h2)), by have := hg.size; rw [World.putObj_size]; omega, by
      have e1 : W0.os = w.os := by rw [hW0]; exact A3.out.os
      exact hg.os.trans e1, by
      have e1 : W0.tape = w.tape := by rw [hW0]; exact A3.out.tape
      exact hg.tape.trans e1, by
      have e1 : W0.output = w.output := by rw [hW0]; exact A3.out.output
      exact hg.output.trans e1⟩)
    clear hO hg hDB hDM hblk hc hf
    gi_wp2
    refine ⟨by simp, .inl ⟨_, _, rfl, run_takeDeferred hK, ?_⟩⟩
    exact ⟨_, results_none rfl _ _ _, rfl, haft.out, hpa.out⟩
end Hi
end Go.Proofs.Ytgfhfcjjodcgdaa
