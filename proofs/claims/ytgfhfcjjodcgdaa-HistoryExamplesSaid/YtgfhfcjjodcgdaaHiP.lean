/- Package history: the past of a call in memory: what lies there, how it is made, the conditions begins and follows: contracts of the translated code. Conditions: those of each lemma. -/
import Derived.Test.YtgfhfcjjodcgdaaHiT
import Derived.StillTailTactics
namespace Go.Proofs.Ytgfhfcjjodcgdaa
open Go.RowKit Go.Shelf Go.Sort
set_option linter.unusedVariables false
set_option linter.unusedSimpArgs false
namespace Hi
/-- the thread of each step -/
def own (l : List C) (s : Int) : Option Int := match l.reverse.find? fun x => decide (s ∈ stp x) with | some x => some x.t | none => none
theorem own_snoc (l : List C) (x : C) (s : Int) : own (l ++ [x]) s = if s ∈ stp x then some x.t else own l s := by
  unfold own
  rw [List.reverse_append, List.reverse_singleton, List.singleton_append]
  by_cases h : s ∈ stp x
  · rw [List.find?_cons_of_pos (by simpa using h), if_pos h]
  · rw [List.find?_cons_of_neg (by simpa using h), if_neg h]
theorem own_some {l : List C} {s t : Int} (h : own l s = some t) : ∃ x ∈ l, s ∈ stp x ∧ x.t = t := by
  unfold own at h
  split at h
  · rename_i x hx
    have h1 := List.find?_some hx
    have h2 := List.mem_of_find?_eq_some hx
    exact ⟨x, by simpa using h2, by simpa using h1, by simpa using h⟩
  · cases h
theorem own_none {l : List C} {s : Int} (h : own l s = none) : ∀ x ∈ l, s ∉ stp x := by
  unfold own at h
  split at h
  · cases h
  · rename_i hx
    rw [List.find?_eq_none] at hx
    intro x hm
    have := hx x (by simpa using hm)
    simpa using this
/-- in a well-formed list a step belongs to one thread -/
theorem own_uniq {l : List C} (h : WF l) {x y : C} (hx : x ∈ l) (hy : y ∈ l) {s : Int} (h1 : s ∈ stp x) (h2 : s ∈ stp y) : x.t = y.t := by
  obtain ⟨i, hi, rfl⟩ := List.getElem_of_mem hx
  obtain ⟨j, hj, rfl⟩ := List.getElem_of_mem hy
  have hp := List.pairwise_iff_getElem.1 (WF_two h)
  rcases Nat.lt_trichotomy i j with hl | hl | hl
  · by_cases ht : l[i].t = l[j].t
    · exact ht
    · exact absurd h2 (meet_no ((hp i j hi hj hl).parts ht) h1)
  · subst hl; rfl
  · by_cases ht : l[j].t = l[i].t
    · exact ht.symm
    · exact absurd h1 (meet_no ((hp j i hj hi hl).parts ht) h2)
theorem clB_own {l : List C} (h : WF l) (c : C) : clB (own l) c = partB l c := by
  rw [Bool.eq_iff_iff]
  unfold clB partB
  rw [List.all_eq_true, List.all_eq_true]
  constructor
  · intro hc x hx
    rw [Bool.or_eq_true, decide_eq_true_eq]
    by_cases ht : x.t = c.t
    · exact .inl ht
    · right
      cases hm : meetB x c with
      | false => rfl
      | true =>
        unfold meetB at hm
        rw [List.any_eq_true] at hm
        obtain ⟨s, h1, h2⟩ := hm
        have h2 : s ∈ stp c := by simpa using h2
        have := hc s h2
        cases ho : own l s with
        | none => exact absurd h1 (own_none ho x hx)
        | some t =>
          rw [ho] at this
          obtain ⟨y, hy, h3, h4⟩ := own_some ho
          have e := own_uniq h hx hy h1 h3
          have : t = c.t := by simpa using this
          exact absurd (e.trans (h4.trans this)) ht
  · intro hc s hs
    cases ho : own l s with
    | none => rfl
    | some t =>
      obtain ⟨y, hy, h3, h4⟩ := own_some ho
      have := hc y hy
      rw [Bool.or_eq_true, decide_eq_true_eq] at this
      rcases this with ht | ht
      · simp; rw [← h4]; exact ht
      · exact absurd hs (meet_no (by simpa using ht) h3)
/-- the past of the calls l: its block, and the map's -/
structure Pa (W : World) (B M : Nat) (l : List C) : Prop where
  inv : W.cell? ⟨B, 0, none⟩ = some (.int .i64 (prevV l))
  cnt : ∀ T, T < 64 → W.cell? ⟨B, 1 + T, none⟩ = some (.int .i64 ((ofT (T : Int) l).length : Nat))
  lst : ∀ T : Nat, T < 64 → ∀ p, (ofT (T : Int) l).getLast? = some p → KC.At W B (65 + T * 18) p
  mp : W.cell? ⟨B, 1217, none⟩ = some (.map (some M))
  there : W.there B 0 1218
  ow : Ow W M (3 * l.length) (own l)
  ne : B ≠ M
theorem Pa.lt {W : World} {B M : Nat} {l : List C} (h : Pa W B M l) : B < W.heap.size ∧ M < W.heap.size := ⟨cell_lt h.inv, h.ow.lt⟩
theorem Pa.same {W W' : World} {B M : Nat} {l : List C} (h : Pa W B M l) (hB : W'.heap[B]? = W.heap[B]?) (hM : W'.heap[M]? = W.heap[M]?) : Pa W' B M l := by
  have hc : ∀ o, W'.cell? ⟨B, o, none⟩ = W.cell? ⟨B, o, none⟩ := fun o => World.cell?_of_block (a := ⟨B, o, none⟩) hB
  have hf : ∀ o, W'.frozen? ⟨B, o, none⟩ = W.frozen? ⟨B, o, none⟩ := fun o => World.frozen?_of_block (a := ⟨B, o, none⟩) hB
  exact ⟨(hc _).trans h.inv, fun T hT => (hc _).trans (h.cnt T hT), fun T hT p hp => (h.lst T hT p hp).keep hB, (hc _).trans h.mp, fun j hj => by rw [hc, hf]; exact h.there j hj, h.ow.same hM, h.ne⟩
theorem Pa.bel {W W' : World} {B M n : Nat} {l : List C} (h : Pa W B M l) (hb : Below n W W') (h1 : B < n) (h2 : M < n) : Pa W' B M l := h.same (hb.block B h1) (hb.block M h2)
theorem Pa.below {W W' : World} {B M : Nat} {l : List C} (h : Pa W B M l) (hb : Below W.heap.size W W') : Pa W' B M l := h.bel hb h.lt.1 h.lt.2
theorem Pa.alloc {W : World} {B M : Nat} {l : List C} (h : Pa W B M l) (o : Obj) : Pa (W.alloc o) B M l := h.below (bel_alloc (Below.refl _ _) o)
theorem Pa.count {W : World} {B M : Nat} {l : List C} (h : Pa W B M l) {t : Int} (h0 : 0 ≤ t) (h1 : t < 64) : W.cell? ⟨B, 1 + t.toNat, none⟩ = some (.int .i64 ((ofT t l).length : Nat)) := by
  have := h.cnt t.toNat (by omega)
  rwa [Int.toNat_of_nonneg h0] at this
theorem Pa.last {W : World} {B M : Nat} {l : List C} (h : Pa W B M l) {t : Int} (h0 : 0 ≤ t) (h1 : t < 64) {p : C} (hp : (ofT t l).getLast? = some p) : KC.At W B (65 + t.toNat * 18) p := by
  refine h.lst t.toNat (by omega) p ?_
  rwa [Int.toNat_of_nonneg h0]
theorem zc_size : Try.zeroCells87.size = 1218 := Try.zeroCells87_size
theorem zc_cnt : Try.zeroCells87.extract 1 65 = Array.replicate 64 (.int .i64 0) := by kernel_rfl
theorem zc_at {T : Nat} (h : T < 64) : Try.zeroCells87[1 + T]? = some (.int .i64 0) := by
  have h1 := congrArg (fun a : Array Value => a[T]?) zc_cnt
  simp only [Array.getElem?_extract, Array.getElem?_replicate, if_pos h] at h1
  have hz := zc_size
  rw [if_pos (by omega)] at h1
  exact h1
theorem Pa.new (w : World) (Z : Array Value) (hZ : Z = Try.zeroCells87) : Pa ((w.alloc (.map #[] 0)).alloc (.cells ((Z.setIfInBounds 0 (.int .i64 (-1))).setIfInBounds 1217 (.map (some w.heap.size))) 87)) (w.heap.size + 1) w.heap.size [] := by
  have hs : Z.size = 1218 := by rw [hZ]; exact zc_size
  have hz : ∀ T, T < 64 → Z[1 + T]? = some (.int .i64 0) := fun T hT => by rw [hZ]; exact zc_at hT
  clear hZ
  have hc : ∀ o, ((w.alloc (.map #[] 0)).alloc (.cells ((Z.setIfInBounds 0 (.int .i64 (-1))).setIfInBounds 1217 (.map (some w.heap.size))) 87)).cell? ⟨w.heap.size + 1, o, none⟩ = ((Z.setIfInBounds 0 (.int .i64 (-1))).setIfInBounds 1217 (.map (some w.heap.size)))[o]? := fun o => by
    have := World.cell?_alloc_new (w.alloc (.map #[] 0)) ((Z.setIfInBounds 0 (.int .i64 (-1))).setIfInBounds 1217 (.map (some w.heap.size))) 87 o
    rwa [World.size_alloc] at this
  refine ⟨?_, fun T hT => ?_, fun T hT p hp => by simp [ofT] at hp, ?_, ?_, ?_, by omega⟩
  · rw [hc, Array.getElem?_setIfInBounds_ne (by omega), Array.getElem?_setIfInBounds_self_of_lt (by omega)]; rfl
  · rw [hc, Array.getElem?_setIfInBounds_ne (by omega), Array.getElem?_setIfInBounds_ne (by omega), hz T hT]; rfl
  · rw [hc, Array.getElem?_setIfInBounds_self_of_lt (by simp; omega)]
  · have := there_new (w.alloc (.map #[] 0)) ((Z.setIfInBounds 0 (.int .i64 (-1))).setIfInBounds 1217 (.map (some w.heap.size))) 87 1218 (by simp; omega)
    rwa [World.size_alloc] at this
  · exact (Ow.made w).same ((MapKept.heap_alloc _ _).2 _ (by simp))
theorem newPast_any (w : World) : Calls Try.prog 33 #[] w fun e w' => e = .returned (.pointer (some ⟨w.heap.size + 1, 0, none⟩)) ∧ Below w.heap.size w w' ∧ Pa w' (w.heap.size + 1) w.heap.size [] := by
  have hmm := @run_makeMap Try.prog
  go_enter Try.func33, Try.ntmps33
  go_wp2
  go_ret
  exact ⟨rfl, bel_alloc (bel_alloc (Below.refl _ _) _) _, Pa.new w _ rfl⟩
/-- the block of a call with its past, and the past -/
theorem at_call (w : World) (x : C) (v : Value) : (w.alloc (.cells #[.int .i64 x.t, .int .i64 x.i, .int .u8 x.k, .int .u64 x.p0, .int .u64 x.p1, .int .u64 x.p2, .int .u64 x.p3, .int .u64 x.p4, .int .u64 x.p5, .int .i64 x.v, .int .i64 x.u, .int .i64 x.a, .int .i64 x.s, .int .i64 x.re, .bool x.rf, .int .u64 x.rk, .int .u64 x.rv, .int .i64 x.rc, v] 66)).heap[w.heap.size]? = some (.cells #[.int .i64 x.t, .int .i64 x.i, .int .u8 x.k, .int .u64 x.p0, .int .u64 x.p1, .int .u64 x.p2, .int .u64 x.p3, .int .u64 x.p4, .int .u64 x.p5, .int .i64 x.v, .int .i64 x.u, .int .i64 x.a, .int .i64 x.s, .int .i64 x.re, .bool x.rf, .int .u64 x.rk, .int .u64 x.rv, .int .i64 x.rc, v] 66 (0, 0)) := (MapKept.heap_alloc w _).1
theorem begins_any (x : C) (B M : Nat) (l : List C) (w : World) (hP : Pa w B M l) (hp : -1 ≤ prevV l) (hl : l.length ≤ 100000) : Calls Try.prog 50 #[.agg #[.int .i64 x.t, .int .i64 x.i, .int .u8 x.k, .int .u64 x.p0, .int .u64 x.p1, .int .u64 x.p2, .int .u64 x.p3, .int .u64 x.p4, .int .u64 x.p5, .int .i64 x.v, .int .i64 x.u, .int .i64 x.a, .int .i64 x.s, .int .i64 x.re, .bool x.rf, .int .u64 x.rk, .int .u64 x.rv, .int .i64 x.rc, .pointer (some ⟨B, 0, none⟩)]] w fun e w' => e = .returned (.bool (beginB l x)) ∧ Below w.heap.size w w' := by
  obtain ⟨r, hr⟩ : ∃ r, beginB l x = r := ⟨_, rfl⟩
  rw [hr]
  have HR := Lib.hid hr
  clear hr
  have BE := Lib.hid (bel_alloc (Below.refl w.heap.size w) (.cells #[.int .i64 x.t, .int .i64 x.i, .int .u8 x.k, .int .u64 x.p0, .int .u64 x.p1, .int .u64 x.p2, .int .u64 x.p3, .int .u64 x.p4, .int .u64 x.p5, .int .i64 x.v, .int .i64 x.u, .int .i64 x.a, .int .i64 x.s, .int .i64 x.re, .bool x.rf, .int .u64 x.rk, .int .u64 x.rv, .int .i64 x.rc, .pointer (some ⟨B, 0, none⟩)] 66))
  have PA := Lib.hid (hP.alloc (.cells #[.int .i64 x.t, .int .i64 x.i, .int .u8 x.k, .int .u64 x.p0, .int .u64 x.p1, .int .u64 x.p2, .int .u64 x.p3, .int .u64 x.p4, .int .u64 x.p5, .int .i64 x.v, .int .i64 x.u, .int .i64 x.a, .int .i64 x.s, .int .i64 x.re, .bool x.rf, .int .u64 x.rk, .int .u64 x.rv, .int .i64 x.rc, .pointer (some ⟨B, 0, none⟩)] 66))
  have q0 := PA.out.inv
  have HL := Lib.hid hl
  clear hP hl
  by_cases h0 : x.t < 0
  · have d0 := decide_eq_true h0
    have HV := Lib.hid (show r = false by rw [← HR.out]; simp [beginB]; omega)
    clear HR h0
    go_enter Try.func50, Try.ntmps50
    go_wp2
    go_ret
    exact ⟨by rw [HV.out]; first | done | rfl, BE.out⟩
  · have d0 := decide_eq_false h0
    have h0' : 0 ≤ x.t := by omega
    by_cases h1 : 64 ≤ x.t
    · have d1 := decide_eq_true h1
      have HV := Lib.hid (show r = false by rw [← HR.out]; simp [beginB]; omega)
      clear HR h0
      go_enter Try.func50, Try.ntmps50
      go_wp2
      go_ret
      exact ⟨by rw [HV.out]; first | done | rfl, BE.out⟩
    · have d1 := decide_eq_false h1
      have h1' : x.t < 64 := by omega
      have q1 := PA.out.count h0' h1'
      have hw : r = (decide (x.i = ((ofT x.t l).length : Nat)) && decide (prevV l < x.v)) := by
        rw [← HR.out]
        unfold beginB
        rw [decide_eq_true h0', decide_eq_true h1']
        by_cases h4 : prevV l < x.v
        · rw [decide_eq_true h4, decide_eq_true (show 0 ≤ x.v by omega)]; rfl
        · rw [decide_eq_false h4]; simp
      clear HR
      generalize hN : (ofT x.t l).length = N at *
      generalize hV : prevV l = V at *
      clear hN hV
      by_cases h2 : x.i = (N : Int)
      · have d2 : (x.i == (N : Int)) = true := by simpa using h2
        by_cases h3 : V < x.v
        all_goals
          first | (have d3 := decide_eq_false h3) | (have d3 := decide_eq_true h3)
          have HV := Lib.hid (show r = decide (V < x.v) by rw [hw, decide_eq_true h2]; rfl)
          rw [d3] at HV
          clear hw h2 h0 h1 h3
          go_enter Try.func50, Try.ntmps50
          go_wp2
          go_quiet (fail)
          go_wp2
          go_ret
          exact ⟨by rw [HV.out]; first | done | rfl, bel_drawN BE.out _⟩
      · have d2 : (x.i == (N : Int)) = false := by simpa using h2
        have HV := Lib.hid (show r = false by rw [hw, decide_eq_false h2]; rfl)
        clear hw h2 h0 h1
        go_enter Try.func50, Try.ntmps50
        go_wp2
        go_quiet (fail)
        go_wp2
        go_ret
        exact ⟨by rw [HV.out]; first | done | rfl, bel_drawN BE.out _⟩
theorem at_regrown {K : Kd C} {w : World} {b o : Nat} {x : C} (h : K.At w b o x) : ∀ w', (∃ p : Regrown, w' = grow (redrawn w p.d) p.os) → K.At w' b o x := by
  rintro w' ⟨p, rfl⟩ j u hj
  exact cell_regrown (h j u hj) _ _
set_option maxHeartbeats 1000000 in
theorem follows_any (x : C) (B M : Nat) (l : List C) (w : World) (hP : Pa w B M l) (h0 : 0 ≤ x.t) (h1 : x.t < 64) (hl : l.length ≤ 100000) : Calls Try.prog 53 #[.agg #[.int .i64 x.t, .int .i64 x.i, .int .u8 x.k, .int .u64 x.p0, .int .u64 x.p1, .int .u64 x.p2, .int .u64 x.p3, .int .u64 x.p4, .int .u64 x.p5, .int .i64 x.v, .int .i64 x.u, .int .i64 x.a, .int .i64 x.s, .int .i64 x.re, .bool x.rf, .int .u64 x.rk, .int .u64 x.rv, .int .i64 x.rc, .pointer (some ⟨B, 0, none⟩)]] w fun e w' => e = .returned (.bool (follB l x)) ∧ Below w.heap.size w w' := by
  obtain ⟨r, hr⟩ : ∃ r, follB l x = r := ⟨_, rfl⟩
  rw [hr]
  have HR := Lib.hid hr
  clear hr
  have BE := Lib.hid (bel_alloc (Below.refl w.heap.size w) (.cells #[.int .i64 x.t, .int .i64 x.i, .int .u8 x.k, .int .u64 x.p0, .int .u64 x.p1, .int .u64 x.p2, .int .u64 x.p3, .int .u64 x.p4, .int .u64 x.p5, .int .i64 x.v, .int .i64 x.u, .int .i64 x.a, .int .i64 x.s, .int .i64 x.re, .bool x.rf, .int .u64 x.rk, .int .u64 x.rv, .int .i64 x.rc, .pointer (some ⟨B, 0, none⟩)] 66))
  have PA := Lib.hid (hP.alloc (.cells #[.int .i64 x.t, .int .i64 x.i, .int .u8 x.k, .int .u64 x.p0, .int .u64 x.p1, .int .u64 x.p2, .int .u64 x.p3, .int .u64 x.p4, .int .u64 x.p5, .int .i64 x.v, .int .i64 x.u, .int .i64 x.a, .int .i64 x.s, .int .i64 x.re, .bool x.rf, .int .u64 x.rk, .int .u64 x.rv, .int .i64 x.rc, .pointer (some ⟨B, 0, none⟩)] 66))
  have AX := Lib.hid (at_new2 w x (.pointer (some ⟨B, 0, none⟩)) 66)
  have q1 := PA.out.count h0 h1
  have hle : (ofT x.t l).length ≤ 100000 := Nat.le_trans (List.length_filter_le _ _) hl
  clear hP hl
  obtain ⟨N, hN⟩ : ∃ N, (ofT x.t l).length = N := ⟨_, rfl⟩
  rw [hN] at q1 hle
  by_cases h2 : N = 0
  · have d2 : ((N : Int) == 0) = true := by simp; omega
    have HV := Lib.hid (show r = true by
      rw [← HR.out]
      have : ofT x.t l = [] := List.eq_nil_of_length_eq_zero (by omega)
      unfold follB; rw [this]; rfl)
    clear HR h2 hN
    go_enter Try.func53, Try.ntmps53
    go_wp2
    go_quiet (fail)
    go_wp2
    go_ret
    exact ⟨by rw [HV.out]; first | done | rfl, bel_drawN BE.out _⟩
  · have d2 : ((N : Int) == 0) = false := by simp; omega
    obtain ⟨p, hp⟩ : ∃ p, (ofT x.t l).getLast? = some p := by
      cases h : (ofT x.t l).getLast? with
      | none => rw [List.getLast?_eq_none_iff] at h; rw [h] at hN; simp at hN; omega
      | some p => exact ⟨p, rfl⟩
    have AP := Lib.hid (PA.out.last h0 h1 hp)
    have HV := Lib.hid (show r = bfr p x by rw [← HR.out]; unfold follB; rw [hp])
    have CB := fun W => before_any p x W
    rw [← HV.out] at CB
    have HL := Lib.hid hle
    clear HR h2 hN hp HV
    have hw0 : ∀ d os, (grow (redrawn (w.alloc (.cells #[.int .i64 x.t, .int .i64 x.i, .int .u8 x.k, .int .u64 x.p0, .int .u64 x.p1, .int .u64 x.p2, .int .u64 x.p3, .int .u64 x.p4, .int .u64 x.p5, .int .i64 x.v, .int .i64 x.u, .int .i64 x.a, .int .i64 x.s, .int .i64 x.re, .bool x.rf, .int .u64 x.rk, .int .u64 x.rv, .int .i64 x.rc, .pointer (some ⟨B, 0, none⟩)] 66)) d) os).cell? ⟨B, 1 + x.t.toNat, none⟩ = some (.int .i64 (N : Int)) := fun d os => cell_regrown q1 d os
    have hw1 : ∀ d os, (grow (redrawn (w.alloc (.cells #[.int .i64 x.t, .int .i64 x.i, .int .u8 x.k, .int .u64 x.p0, .int .u64 x.p1, .int .u64 x.p2, .int .u64 x.p3, .int .u64 x.p4, .int .u64 x.p5, .int .i64 x.v, .int .i64 x.u, .int .i64 x.a, .int .i64 x.s, .int .i64 x.re, .bool x.rf, .int .u64 x.rk, .int .u64 x.rv, .int .i64 x.rc, .pointer (some ⟨B, 0, none⟩)] 66)) d) os).cell? ⟨w.heap.size, 18, none⟩ = some (.pointer (some ⟨B, 0, none⟩)) := fun d os => cell_regrown (at_blk (at_call w x _)).2 d os
    have hw2 : ∀ d os, (grow (redrawn (w.alloc (.cells #[.int .i64 x.t, .int .i64 x.i, .int .u8 x.k, .int .u64 x.p0, .int .u64 x.p1, .int .u64 x.p2, .int .u64 x.p3, .int .u64 x.p4, .int .u64 x.p5, .int .i64 x.v, .int .i64 x.u, .int .i64 x.a, .int .i64 x.s, .int .i64 x.re, .bool x.rf, .int .u64 x.rk, .int .u64 x.rv, .int .i64 x.rc, .pointer (some ⟨B, 0, none⟩)] 66)) d) os).cell? ⟨w.heap.size, 0, none⟩ = some (.int .i64 x.t) := fun d os => cell_regrown (at_blk (at_call w x _)).1 d os
    go_enter Try.func53, Try.ntmps53
    go_wp2
    refine wp_region_quiet_below (by kernel_rfl) (by kernel_rfl) ?_
    repeat (first | (go_big_quiet_want; refine ldQ (.tmp 21) rfl B (65 + x.t.toNat * 18) rfl p (at_regrown AP.out) ?_; go_simp; go_big_quiet_on) | (go_big_quiet_want; refine ldQ (.tmp 23) rfl w.heap.size 0 rfl x (at_regrown AX.out) ?_; go_simp; go_big_quiet_on) | go_big_quiet_step ((go_at_call 30; exact Calls.regrown_of (CB _))))
    refine wpQuiet_nil ?_
    rintro w' ⟨q, rfl⟩
    go_wp2
    go_ret
    exact ⟨by first | done | rfl, bel_bel BE.out (below_regrown _ _ _)⟩
end Hi
end Go.Proofs.Ytgfhfcjjodcgdaa
