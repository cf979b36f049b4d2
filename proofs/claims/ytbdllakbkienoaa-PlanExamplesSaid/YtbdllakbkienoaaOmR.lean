/- A map of leapfrogref05 in memory; place and set: contracts of the translated code. Conditions: at most 1000 pairs; the bounds of each number's kind. -/
import Derived.Test.YtbdllakbkienoaaOmP
namespace Go.Proofs.Ytbdllakbkienoaa
open Go.RowKit Go.Sort
set_option linter.unusedVariables false
set_option linter.unusedSimpArgs false
namespace Om
/-- at block bm lies a map whose only field, the slice v, is a row of the program's own with the pairs l -/
def MapAt (w : World) (bm : Nat) (v : Value) (l : List Pr) : Prop :=
  w.cell? ⟨bm, 0, none⟩ = some v ∧ w.frozen? ⟨bm, 0, none⟩ = false ∧ w.ownsRow 0 43 2 v l.length (flat l) ∧ v.ownBlock ≠ some bm
theorem row_keep {w w' : World} {B n : Nat} {t : TypeId} {v : Value} {xs : List Value} (h : w.ownsRow B t 2 v n xs) (hk : ∀ k, v.ownBlock = some k → w'.heap[k]? = w.heap[k]?) : w'.ownsRow B t 2 v n xs := by
  refine ⟨h.1, ?_⟩
  rcases h.2 with h' | ⟨g, cap, cur, e, hbase, hh, r⟩
  · exact .inl h'
  · subst e
    exact .inr ⟨g, cap, cur, rfl, hbase, (hk g rfl).trans hh, r⟩
theorem MapAt.keep {w w' : World} {bm : Nat} {v : Value} {l : List Pr} (h : MapAt w bm v l) (hb : w'.heap[bm]? = w.heap[bm]?) (hk : ∀ k, v.ownBlock = some k → w'.heap[k]? = w.heap[k]?) : MapAt w' bm v l :=
  ⟨(World.cell?_of_block (a := ⟨bm, 0, none⟩) hb).trans h.1, (World.frozen?_of_block (a := ⟨bm, 0, none⟩) hb).trans h.2.1, row_keep h.2.2.1 hk, h.2.2.2⟩
theorem MapAt.lt {w : World} {bm : Nat} {v : Value} {l : List Pr} (h : MapAt w bm v l) : bm < w.heap.size := World.block_lt_of_cell? w ⟨bm, 0, none⟩ h.1
theorem MapAt.row_lt {w : World} {bm : Nat} {v : Value} {l : List Pr} (h : MapAt w bm v l) : ∀ k, v.ownBlock = some k → k < w.heap.size := fun k hk => (h.2.2.1.lt k hk).2
theorem MapAt.below {w w' : World} {bm : Nat} {v : Value} {l : List Pr} (h : MapAt w bm v l) (hb : Below w.heap.size w w') : MapAt w' bm v l :=
  h.keep (hb.block bm h.lt) fun k hk => hb.block k (h.row_lt k hk)
theorem MapAt.drewN {w : World} {bm : Nat} {v : Value} {l : List Pr} (h : MapAt w bm v l) (n : Nat) : MapAt (w.drewN n) bm v l := h
theorem MapAt.rd {w : World} {bm : Nat} {v : Value} {l : List Pr} (h : MapAt w bm v l) : ∃ A c, v = .slice A l.length c ∧ l.length ≤ c ∧ Rd w A l ∧ (A = none → c = 0) := by
  obtain ⟨_, A, c, e, hc, rd, ho⟩ := row_form h.2.2.1
  refine ⟨A, c, e, hc, rd, fun hn => ?_⟩
  subst e hn
  rcases h.2.2.1.2 with ⟨e, _⟩ | ⟨g, cap, cur, e, _⟩
  · injection e
  · cases e
/-- only the block bm has changed, and what is new -/
def Only (bm : Nat) (w w' : World) : Prop := w.grownBy w' (some bm)
theorem Only.trans {bm : Nat} {a b c : World} (h : Only bm a b) (k : Only bm b c) : Only bm a c :=
  ⟨k.os.trans h.os, k.tape.trans h.tape, k.output.trans h.output, Nat.le_trans h.size k.size, fun i hi hn => (k.block i (Nat.lt_of_lt_of_le hi h.size) hn).trans (h.block i hi hn)⟩
theorem Only.of_below {bm : Nat} {w w' : World} (h : Below w.heap.size w w') : Only bm w w' := ⟨h.os, h.tape, h.output, h.size, fun k hk _ => h.block k hk⟩
theorem Only.below {bm B : Nat} {w w' : World} (h : Only bm w w') (hB : B ≤ bm) (hw : B ≤ w.heap.size) : Below B w w' := ⟨h.os, h.tape, h.output, h.size, fun k hk => h.block k (by omega) (fun e => by injection e; omega)⟩
theorem Only.set {bm : Nat} {w w' : World} (h : Only bm w w') (v : Value) : Only bm w (w'.setCell ⟨bm, 0, none⟩ v) :=
  h.trans ⟨rfl, rfl, rfl, Nat.le_of_eq (by simp), fun k hk hn => Below.heap_setCell w' ⟨bm, 0, none⟩ v k (fun e => hn (by rw [e]))⟩
/-- a slice of the call's own -/
def Fresh (B : Nat) (v : Value) : Prop := ∀ k, v.ownBlock = some k → B ≤ k
theorem row_fresh {w : World} {B n : Nat} {t : TypeId} {v : Value} {xs : List Value} (h : w.ownsRow B t 2 v n xs) : Fresh B v := fun k hk => (h.lt k hk).1
/-- a map's field set to a row of the call's own -/
theorem MapAt.made {w : World} {bm B : Nat} {v v' : Value} {l : List Pr} {n : Nat} (hc : w.cell? ⟨bm, 0, none⟩ = some v) (hf : w.frozen? ⟨bm, 0, none⟩ = false) (hr : w.ownsRow B 43 2 v' n (flat l)) (hn : n = l.length) (hb : bm < B) : MapAt (w.setCell ⟨bm, 0, none⟩ v') bm v' l := by
  subst hn
  have hne : ∀ k, v'.ownBlock = some k → bm ≠ k := fun k hk => by have := (hr.lt k hk).1; omega
  refine ⟨World.cell?_setCell_same _ _ _ hc, by rw [World.frozen?_setCell]; exact hf, row_base (row_keep hr fun k hk => Below.heap_setCell w ⟨bm, 0, none⟩ v' k (hne k hk).symm) (Nat.zero_le _), fun e => hne bm e rfl⟩
/-! ### place -/
theorem place_no (bm : Nat) (v : Value) (l : List Pr) (key : Int) (w : World) (hm : MapAt w bm v l) (hlen : l.length ≤ 1000) (hno : ∀ x, x ∈ l → x.1 ≠ key) :
    Calls Try.prog 82 #[.pointer (some ⟨bm, 0, none⟩), .int .u64 key] w fun e w' => e = .returned (.int .i64 (-1)) ∧ w = w' := by
  obtain ⟨A, c, rfl, hc, rd, hz⟩ := hm.rd
  have c0 := hm.1
  have HR := Lib.hid rd; clear rd hm
  have HN := Lib.hid hno; clear hno
  have hl1 : (l.length : Int) ≤ 1000 := by omega
  generalize hn : l.length = n at *
  have HL := Lib.hid hn; clear hn
  go_enter Try.func82, Try.ntmps82
  go_wp2
  go_loop [5] (fun i => ∃ j : Nat, j ≤ n ∧ i = .int .i64 j) (fun i => (n - intOf i).toNat)
  case atStart => exact ⟨0, Nat.zero_le _, rfl⟩
  case round =>
    obtain ⟨j, hj, rfl⟩ := hrel
    by_cases hlt : j < n
    · obtain ⟨x, hx, hmem⟩ := getElem?_lt HL.out hlt
      obtain ⟨b, o, rfl, g0, g1⟩ := HR.out j x hx
      have hne := HN.out x hmem
      have HX := Lib.hid hx; clear hx hmem
      have t1 : (x.1 == key) = false := by simp [hne]
      clear hne
      go_wp2
      go_round
      case rel => exact ⟨j + 1, by omega, by go_num⟩
      case measure => simp [intOf]; omega
    · obtain rfl : j = n := by omega
      go_wp2
      go_ret
      exact ⟨rfl, rfl⟩
theorem place_at (bm : Nat) (v : Value) (l : List Pr) (key u : Int) (i : Nat) (w : World) (hm : MapAt w bm v l) (ha : Asc l) (hlen : l.length ≤ 1000) (hi : l[i]? = some (key, u)) :
    Calls Try.prog 82 #[.pointer (some ⟨bm, 0, none⟩), .int .u64 key] w fun e w' => e = .returned (.int .i64 i) ∧ w = w' := by
  obtain ⟨A, c, rfl, hc, rd, hz⟩ := hm.rd
  have c0 := hm.1
  have HR := Lib.hid rd; clear rd hm
  have hin : i < l.length := (List.getElem?_eq_some_iff.1 hi).1
  have HN := Lib.hid (show ∀ j x, j < i → l[j]? = some x → x.1 ≠ key from fun j x hj hx => by
    have h1 := List.pairwise_iff_getElem.1 ha j i (by omega) hin hj
    have e1 := (List.getElem?_eq_some_iff.1 hx).2
    have e2 := (List.getElem?_eq_some_iff.1 hi).2
    rw [e1, e2] at h1
    simp at h1; omega)
  have HI := Lib.hid hi; clear hi
  have HA := Lib.hid ha; clear ha
  have hl1 : (l.length : Int) ≤ 1000 := by omega
  generalize hn : l.length = n at *
  have HL := Lib.hid hn; clear hn
  go_enter Try.func82, Try.ntmps82
  go_wp2
  go_loop [5] (fun q => ∃ j : Nat, j ≤ i ∧ q = .int .i64 j) (fun q => (n - intOf q).toNat)
  case atStart => exact ⟨0, Nat.zero_le _, rfl⟩
  case round =>
    obtain ⟨j, hj, rfl⟩ := hrel
    have hlt : j < n := by omega
    have hli : (j : Int) < n := by omega
    by_cases hji : j < i
    · obtain ⟨x, hx, hmem⟩ := getElem?_lt HL.out hlt
      obtain ⟨b, o, rfl, g0, g1⟩ := HR.out j x hx
      have hne := HN.out j x hji hx
      have HX := Lib.hid hx; clear hx hmem
      have t1 : (x.1 == key) = false := by simp [hne]
      clear hne
      go_wp2
      go_round
      case rel => exact ⟨j + 1, by omega, by go_num⟩
      case measure => simp [intOf]; omega
    · obtain rfl : j = i := by omega
      obtain ⟨b, o, rfl, g0, g1⟩ := HR.out j _ HI.out
      go_wp2
      go_ret
      exact ⟨rfl, rfl⟩
/-! ### set -/
/-- after k pairs: what has been put together so far -/
structure St (l : List Pr) (p : Pr) (k : Nat) (done : Bool) (ys : List Pr) : Prop where
  yes : done = true → ys = setL (l.take k) p ∧ ∃ x, x ∈ l.take k ∧ p.1 ≤ x.1
  no : done = false → ys = l.take k ∧ ∀ x, x ∈ l.take k → x.1 < p.1
  len : ys.length ≤ k + 1
theorem St.start (l : List Pr) (p : Pr) : St l p 0 false [] := ⟨fun h => (Bool.noConfusion h), fun _ => ⟨rfl, by simp⟩, by simp⟩
theorem St.on {l ys : List Pr} {p x : Pr} {k : Nat} (h : St l p k true ys) (hx : l[k]? = some x) (c : x.1 ≠ p.1) : St l p (k + 1) true (ys ++ [x]) := by
  obtain ⟨e, z, hz, hlt⟩ := h.yes rfl
  refine ⟨fun _ => ⟨?_, z, ?_, hlt⟩, fun h => (Bool.noConfusion h), by have := h.len; simp; omega⟩
  · rw [take_succ' hx, setL_done ⟨z, hz, hlt⟩, e, if_pos c]
  · rw [take_succ' hx]; simp [hz]
theorem St.skip {l ys : List Pr} {p x : Pr} {k : Nat} (h : St l p k true ys) (hx : l[k]? = some x) (c : x.1 = p.1) : St l p (k + 1) true ys := by
  obtain ⟨e, z, hz, hlt⟩ := h.yes rfl
  refine ⟨fun _ => ⟨?_, z, ?_, hlt⟩, fun h => (Bool.noConfusion h), by have := h.len; omega⟩
  · rw [take_succ' hx, setL_done ⟨z, hz, hlt⟩, e, if_neg (fun h => h c), List.append_nil]
  · rw [take_succ' hx]; simp [hz]
theorem St.here {l ys : List Pr} {p x : Pr} {k : Nat} (h : St l p k false ys) (hx : l[k]? = some x) (hk : k < l.length) (c : p.1 ≤ x.1) (d : x.1 ≠ p.1) : St l p (k + 1) true ((ys ++ [p]) ++ [x]) := by
  obtain ⟨e, hn⟩ := h.no rfl
  refine ⟨fun _ => ⟨?_, x, ?_, c⟩, fun h => (Bool.noConfusion h), ?_⟩
  · rw [take_succ' hx, setL_past _ _ _ hn, e, setL, if_pos c, List.append_assoc]
    simp [List.filter_cons, d]
  · rw [take_succ' hx]; simp
  · rw [e]; simp; omega
theorem St.same {l ys : List Pr} {p x : Pr} {k : Nat} (h : St l p k false ys) (hx : l[k]? = some x) (hk : k < l.length) (d : x.1 = p.1) : St l p (k + 1) true (ys ++ [p]) := by
  obtain ⟨e, hn⟩ := h.no rfl
  refine ⟨fun _ => ⟨?_, x, ?_, by omega⟩, fun h => (Bool.noConfusion h), ?_⟩
  · rw [take_succ' hx, setL_past _ _ _ hn, e, setL, if_pos (by omega)]
    simp [List.filter_cons, d]
  · rw [take_succ' hx]; simp
  · rw [e]; simp; omega
theorem St.past {l ys : List Pr} {p x : Pr} {k : Nat} (h : St l p k false ys) (hx : l[k]? = some x) (c : x.1 < p.1) : St l p (k + 1) false (ys ++ [x]) := by
  obtain ⟨e, hn⟩ := h.no rfl
  refine ⟨fun h => (Bool.noConfusion h), fun _ => ⟨?_, ?_⟩, by have := h.len; simp; omega⟩
  · rw [take_succ' hx, e]
  · rw [take_succ' hx]
    intro z hz
    rcases List.mem_append.1 hz with hz | hz
    · exact hn z hz
    · simp at hz; subst hz; exact c
theorem St.end_yes {l ys : List Pr} {p : Pr} {k : Nat} (h : St l p k true ys) (hk : l.length ≤ k) : ys = setL l p := by
  have := (h.yes rfl).1
  rwa [List.take_of_length_le hk] at this
theorem St.end_no {l ys : List Pr} {p : Pr} {k : Nat} (h : St l p k false ys) (hk : l.length ≤ k) : ys ++ [p] = setL l p := by
  obtain ⟨e, hn⟩ := h.no rfl
  rw [List.take_of_length_le hk] at e hn
  have := setL_past l [] p hn
  rw [List.append_nil] at this
  rw [this, e]; rfl
/-- the outcome of a call that writes the map bm -/
def SPost (w : World) (bm : Nat) (l : List Pr) (r : Value) (e : Ending) (w' : World) : Prop :=
  ∃ v, e = .returned r ∧ MapAt w' bm v l ∧ Fresh w.heap.size v ∧ Only bm w w'
set_option maxRecDepth 100000 in
set_option maxHeartbeats 1000000 in
theorem set_any (bm : Nat) (v : Value) (l : List Pr) (p : Pr) (w : World) (hm : MapAt w bm v l) (hs : l.length ≤ 1000) :
    Calls Try.prog 68 #[.pointer (some ⟨bm, 0, none⟩), .agg #[.int .u64 p.1, .int .u64 p.2]] w (SPost w bm (setL l p) (.tuple #[])) := by
  obtain ⟨A, c, rfl, hc, rd, hz⟩ := hm.rd
  have hbm := hm.lt
  have HM := Lib.hid hm; clear hm
  have HR := Lib.hid rd; clear rd
  have hl1 : (l.length : Int) ≤ 1000 := by omega
  generalize hn : l.length = n at *
  have HN := Lib.hid hn; clear hn
  go_enter Try.func68, Try.ntmps68
  go_wp2
  go_loopw [4, 5, 6] (fun q dn i wr => ∃ (k : Nat) (done : Bool) (ys : List Pr), k ≤ n ∧ i = .int .i64 k ∧ dn = .bool done ∧ St l p k done ys ∧ wr.ownsRow (w.heap.size + 1) 43 2 q ys.length (flat ys) ∧ Below (w.heap.size + 1) (w.alloc (.cells #[.int .u64 p.1, .int .u64 p.2] 43)) wr) (fun _ _ i _ => n - (intOf i).toNat)
  case atStart => exact ⟨0, false, [], Nat.zero_le _, rfl, rfl, St.start l p, World.ownsRow_nil _ _ _ _, Below.refl _ _⟩
  case round =>
    obtain ⟨k, done, ys, hk, rfl, rfl, pt, hown, bel⟩ := hrel
    have hbs := bel.size
    simp at hbs
    have t0 : wr.cell? ⟨w.heap.size, 0, none⟩ = some (.int .u64 p.1) := by rw [bel.cell (p := ⟨w.heap.size, 0, none⟩) (by simp)]; simp
    have t1 : wr.cell? ⟨w.heap.size, 1, none⟩ = some (.int .u64 p.2) := by rw [bel.cell (p := ⟨w.heap.size, 1, none⟩) (by simp)]; simp
    have belw : Below w.heap.size w wr := ((Below.refl _ _).alloc (Nat.le_refl _) _).trans (bel.mono (by omega))
    have m0 : wr.cell? ⟨bm, 0, none⟩ = some (.slice A n c) := (HM.out.below belw).1
    have f0 : wr.frozen? ⟨bm, 0, none⟩ = false := (HM.out.below belw).2.1
    have hlen := pt.len
    have PT := Lib.hid pt; clear pt
    have OW := Lib.hid hown; clear hown
    by_cases hlt : k < n
    · have u0 : decide ((k : Int) < n) = true := decide_eq_true (by omega)
      have hki : (k : Int) < n := by omega
      obtain ⟨x, hx, hmem⟩ := getElem?_lt HN.out hlt
      have HX := Lib.hid hx; clear hx hmem
      obtain ⟨b, o, rfl, c0, c1⟩ := (HR.out.below belw) k x HX.out
      cases done with
      | true =>
        by_cases hd : x.1 = p.1
        · have HS := Lib.hid (PT.out.skip HX.out hd)
          have d0 : (x.1 != p.1) = false := by simp [hd]
          clear hd
          go_wp2
          go_quiet (fail)
          go_wp2
          go_quiet (fail)
          go_wp2
          go_roundw
          case rel => exact ⟨k + 1, true, ys, by omega, by go_num, rfl, HS.out, OW.out, below_drewN bel _⟩
          case measure => simp [intOf]; omega
        · have HS := Lib.hid (PT.out.on HX.out hd)
          have d0 : (x.1 != p.1) = true := by simp [hd]
          clear hd
          go_wp2
          go_quiet (fail)
          go_wp2
          go_quiet (fail)
          go_wp2_with (at_builtin; refine app1 rfl (.tmp 46) (.tmp 54) rfl _ (w.heap.size + 1) ys.length _ ys x rfl rfl OW.out (by omega) hbs ?_; intro v1 w1 h1 b1)
          go_roundw
          case rel => exact ⟨k + 1, true, ys ++ [x], by omega, by go_num, rfl, HS.out, by simpa using h1, (below_drewN bel _).trans b1⟩
          case measure => simp [intOf]; omega
      | false =>
        by_cases hc : p.1 ≤ x.1
        · have v0 : decide (p.1 ≤ x.1) = true := decide_eq_true hc
          by_cases hd : x.1 = p.1
          · have HS := Lib.hid (PT.out.same HX.out (by have := HN.out; omega) hd)
            have d0 : (x.1 != p.1) = false := by simp [hd]
            clear hd hc
            go_wp2
            go_quiet (fail)
            go_wp2_with (at_builtin; refine app1 rfl (.tmp 31) (.tmp 33) rfl _ (w.heap.size + 1) ys.length _ ys p rfl rfl OW.out (by omega) hbs ?_; intro v1 w1 h1 b1; have H1 := Lib.hid h1; clear h1; have B1 := Lib.hid ((below_drewN bel _).trans b1); have BW := Lib.hid ((below_drewN belw _).trans (b1.mono (by omega))); have hz1 := b1.size; have m1 := (HM.out.below BW.out).1; obtain ⟨b', o', e', c0', c1'⟩ := (HR.out.below BW.out) k x HX.out; cases e'; have t0' := (b1.cell (p := ⟨w.heap.size, 0, none⟩) (Nat.lt_succ_self _)).trans t0; have t1' := (b1.cell (p := ⟨w.heap.size, 1, none⟩) (Nat.lt_succ_self _)).trans t1; have hz1 := Nat.le_trans hbs hz1; clear b1)
            go_quiet (fail)
            go_wp2
            go_roundw
            case rel => exact ⟨k + 1, true, ys ++ [p], by omega, by go_num, rfl, HS.out, by rw [List.length_append]; exact H1.out, below_drewN B1.out _⟩
            case measure => simp [intOf]; omega
          · have HS := Lib.hid (PT.out.here HX.out (by have := HN.out; omega) hc hd)
            have d0 : (x.1 != p.1) = true := by simp [hd]
            clear hd hc
            go_wp2
            go_quiet (fail)
            go_wp2_with (at_builtin; refine app1 rfl (.tmp 31) (.tmp 33) rfl _ (w.heap.size + 1) ys.length _ ys p rfl rfl OW.out (by omega) hbs ?_; intro v1 w1 h1 b1; have H1 := Lib.hid h1; clear h1; have B1 := Lib.hid ((below_drewN bel _).trans b1); have BW := Lib.hid ((below_drewN belw _).trans (b1.mono (by omega))); have hz1 := b1.size; have m1 := (HM.out.below BW.out).1; obtain ⟨b', o', e', c0', c1'⟩ := (HR.out.below BW.out) k x HX.out; cases e'; have t0' := (b1.cell (p := ⟨w.heap.size, 0, none⟩) (Nat.lt_succ_self _)).trans t0; have t1' := (b1.cell (p := ⟨w.heap.size, 1, none⟩) (Nat.lt_succ_self _)).trans t1; have hz1 := Nat.le_trans hbs hz1; clear b1)
            go_quiet (fail)
            go_wp2_with (at_builtin; refine app1 rfl (.tmp 46) (.tmp 54) rfl _ (w.heap.size + 1) (ys.length + 1) _ (ys ++ [p]) x rfl rfl H1.out (by omega) hz1 ?_; intro v2 w2 h2 b2)
            go_roundw
            case rel => exact ⟨k + 1, true, (ys ++ [p]) ++ [x], by omega, by go_num, rfl, HS.out, by simpa using h2, (below_drewN B1.out _).trans b2⟩
            case measure => simp [intOf]; omega
        · have HS := Lib.hid (PT.out.past HX.out (by omega))
          have v0 : decide (p.1 ≤ x.1) = false := decide_eq_false hc
          have d0 : (x.1 != p.1) = true := by simp; omega
          clear hc
          go_wp2
          go_quiet (fail)
          go_wp2
          go_quiet (fail)
          go_wp2_with (at_builtin; refine app1 rfl (.tmp 46) (.tmp 54) rfl _ (w.heap.size + 1) ys.length _ ys x rfl rfl OW.out (by omega) hbs ?_; intro v1 w1 h1 b1)
          go_roundw
          case rel => exact ⟨k + 1, false, ys ++ [x], by omega, by go_num, rfl, HS.out, by simpa using h1, (below_drewN bel _).trans b1⟩
          case measure => simp [intOf]; omega
    · have hkn : l.length ≤ k := by have := HN.out; omega
      obtain rfl : k = n := by omega
      have u0 : decide ((k : Int) < k) = false := decide_eq_false (by omega)
      cases done with
      | true =>
        have HE := Lib.hid (PT.out.end_yes hkn)
        obtain ⟨_, A', c', rfl, _⟩ := row_form OW.out
        go_wp2
        go_end0
        exact ⟨_, rfl, MapAt.made m0 f0 (by rw [← HE.out]; exact OW.out) (by rw [← HE.out]) (by omega), fun q hq => by have := row_fresh OW.out q hq; omega, (Only.of_below belw).set _⟩
      | false =>
        have HE := Lib.hid (PT.out.end_no hkn)
        go_wp2_with (at_builtin; refine app1 rfl (.tmp 58) (.tmp 60) rfl wr (w.heap.size + 1) ys.length _ ys p rfl rfl OW.out (by omega) hbs ?_; intro v1 w1 h1 b1; obtain ⟨_, A', c', e', _⟩ := row_form (n := ys.length + 1) (l := ys ++ [p]) h1; subst e'; have H1 := Lib.hid h1; clear h1; have BW := Lib.hid (belw.trans (b1.mono (by omega))); have m1 := (HM.out.below BW.out).1; have f1 := (HM.out.below BW.out).2.1)
        go_end0
        exact ⟨_, rfl, MapAt.made m1 f1 (by rw [← HE.out]; exact H1.out) (by rw [← HE.out]; simp) (by omega), fun q hq => by have := row_fresh H1.out q hq; omega, (Only.of_below BW.out).set _⟩
end Om
end Go.Proofs.Ytbdllakbkienoaa
