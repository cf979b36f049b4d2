/- Package history: parts and add, which range over the steps of a call: contracts of the translated code. Conditions: those of each lemma. -/
import Derived.Test.YtgfhfcjjodcgdaaHiS
namespace Go.Proofs.Ytgfhfcjjodcgdaa
open Go.RowKit Go.Shelf Go.Sort
set_option linter.unusedVariables false
set_option linter.unusedSimpArgs false
attribute [local go_sem] Oper.semAt_some
namespace Hi
/-- no step of the call belongs to another thread -/
def clB (f : Int → Option Int) (x : C) : Bool := (stp x).all fun s => match f s with | some t => decide (t = x.t) | none => true
theorem at_new2 (w : World) (x : C) (v : Value) (T : TypeId) : KC.At (w.alloc (.cells #[.int .i64 x.t, .int .i64 x.i, .int .u8 x.k, .int .u64 x.p0, .int .u64 x.p1, .int .u64 x.p2, .int .u64 x.p3, .int .u64 x.p4, .int .u64 x.p5, .int .i64 x.v, .int .i64 x.u, .int .i64 x.a, .int .i64 x.s, .int .i64 x.re, .bool x.rf, .int .u64 x.rk, .int .u64 x.rv, .int .i64 x.rc, v] T)) w.heap.size 0 x := fun j u hj => by
  rw [Nat.zero_add, World.cell?_alloc_new]
  have hj18 : j < 18 := by have := (List.getElem?_eq_some_iff.1 hj).1; simpa [KC] using this
  rw [← hj]
  simp only [KC]
  match j, hj18 with
  | 0, _ => rfl
  | 1, _ => rfl
  | 2, _ => rfl
  | 3, _ => rfl
  | 4, _ => rfl
  | 5, _ => rfl
  | 6, _ => rfl
  | 7, _ => rfl
  | 8, _ => rfl
  | 9, _ => rfl
  | 10, _ => rfl
  | 11, _ => rfl
  | 12, _ => rfl
  | 13, _ => rfl
  | 14, _ => rfl
  | 15, _ => rfl
  | 16, _ => rfl
  | 17, _ => rfl
theorem sel_bd {x : C} (h : Bd1 x) (k : Fin 3) : I64 (sel x k) := by
  have h1 := h.v
  have h2 := h.u
  have h3 := h.a
  unfold sel
  split
  · exact h1
  · split
    · exact h2
    · exact h3
def okB (f : Int → Option Int) (x : C) (s : Int) : Bool := match f s with | some t => decide (t = x.t) | none => true
theorem clB_spL (f : Int → Option Int) (x : C) : clB f x = (spL x).all fun k => okB f x (sel x k) := by
  unfold clB
  rw [stp_spL, List.all_map]; rfl
theorem cells_own {β : Type} (b : Nat) (o : Obj) (ho : o.isCells = true) : Own (fun (_ : β) W => W.heap[b]? = some o) := fun s X Y row hs hg hrow =>
  (hg.block b (Array.getElem?_eq_some_iff.1 hs).1 (fun e' => by
    obtain ⟨o', h', hc⟩ := hrow b e'.symm
    rw [hs] at h'; cases h'; rw [ho] at hc; cases hc)).trans hs
theorem boxed_own {β : Type} (B : Nat) (t : TypeId) (v : Value) : Own (fun (_ : β) W => Boxed W B t v) := fun s X Y row hv hg hrow =>
  hv.kept hg (fun e' => by
    obtain ⟨o, ho, hc⟩ := hrow B e'.symm
    rw [show X.heap[B]? = _ from hv] at ho; cases ho; cases hc)
theorem res_one {fn : Func} {tmps : Array Value} {W : World} {a ty : Nat} {ad : Addr} {x : Value} (hfn : fn.results = #[.cell a ty]) (h1 : tmps.getD a undef = .pointer (some ad)) (h2 : (loadVar ty ad).run Try.prog W = .ok x W) : (results fn tmps).run Try.prog W = .ok x W := by
  unfold results
  rw [hfn]
  have ha : asAddr (tmps[a]?.getD undef) = pure ad := by rw [show tmps[a]?.getD undef = tmps.getD a undef by simp, h1]; rfl
  simp [ha, h2]
theorem load_bool {W : World} {b : Nat} {x : Bool} (h : Boxed W b 4 (.bool x)) : (loadVar 4 ⟨b, 0, none⟩).run Try.prog W = .ok (.bool x) W := by
  have c := h.cell
  simp [go_sem, c]
theorem boxed_put {W : World} {B D : Nat} {t : TypeId} {v : Value} {o o' : Obj} (h : Boxed W B t v) (hD : W.heap[D]? = some o) (ho : o.isCells = false) : Boxed (W.putObj D o') B t v := by
  have hne : B ≠ D := fun e => by
    subst e
    rw [show W.heap[B]? = _ from h] at hD
    cases hD; cases ho
  exact (World.putObj_heap_other hne).trans h
theorem at_blk {W : World} {b : Nat} {x : C} {v : Value} {T : TypeId} (h : W.heap[b]? = some (.cells #[.int .i64 x.t, .int .i64 x.i, .int .u8 x.k, .int .u64 x.p0, .int .u64 x.p1, .int .u64 x.p2, .int .u64 x.p3, .int .u64 x.p4, .int .u64 x.p5, .int .i64 x.v, .int .i64 x.u, .int .i64 x.a, .int .i64 x.s, .int .i64 x.re, .bool x.rf, .int .u64 x.rk, .int .u64 x.rv, .int .i64 x.rc, v] T (0, 0))) : W.cell? ⟨b, 0, none⟩ = some (.int .i64 x.t) ∧ W.cell? ⟨b, 18, none⟩ = some v := by
  constructor <;> simp [World.cell?, h]
set_option maxRecDepth 100000 in
set_option maxHeartbeats 2000000 in
theorem parts_in (F : Fence) (hF : ∀ f, F.fn f) (hro : F.round = none) (n : Nat) (hn : 3 ≤ n) (x : C) (B M k : Nat) (f : Int → Option Int) (w : World) (hP : w.cell? ⟨B, 1217, none⟩ = some (.map (some M))) (hO : Ow w M k f) (hb : Bd1 x) :
    CallsIn F n Try.prog 54 #[.agg #[.int .i64 x.t, .int .i64 x.i, .int .u8 x.k, .int .u64 x.p0, .int .u64 x.p1, .int .u64 x.p2, .int .u64 x.p3, .int .u64 x.p4, .int .u64 x.p5, .int .i64 x.v, .int .i64 x.u, .int .i64 x.a, .int .i64 x.s, .int .i64 x.re, .bool x.rf, .int .u64 x.rk, .int .u64 x.rv, .int .i64 x.rc, .pointer (some ⟨B, 0, none⟩)]] w fun e w' => e = .returned (.bool (clB f x)) ∧ Below w.heap.size w w' := by
  have h1 : 1 ≤ n := by omega
  obtain ⟨W0, hW0⟩ : ∃ W0 : World, W0 = ((w.alloc (.cells #[.int .i64 x.t, .int .i64 x.i, .int .u8 x.k, .int .u64 x.p0, .int .u64 x.p1, .int .u64 x.p2, .int .u64 x.p3, .int .u64 x.p4, .int .u64 x.p5, .int .i64 x.v, .int .i64 x.u, .int .i64 x.a, .int .i64 x.s, .int .i64 x.re, .bool x.rf, .int .u64 x.rk, .int .u64 x.rv, .int .i64 x.rc, .pointer (some ⟨B, 0, none⟩)] 66)).alloc (.cells #[.bool false] 4)).alloc (.cells #[.int .i64 x.t, .int .i64 x.i, .int .u8 x.k, .int .u64 x.p0, .int .u64 x.p1, .int .u64 x.p2, .int .u64 x.p3, .int .u64 x.p4, .int .u64 x.p5, .int .i64 x.v, .int .i64 x.u, .int .i64 x.a, .int .i64 x.s, .int .i64 x.re, .bool x.rf, .int .u64 x.rk, .int .u64 x.rv, .int .i64 x.rc] 47) := ⟨_, rfl⟩
  have L1 := Lib.hid ((at_new2 w x (.pointer (some ⟨B, 0, none⟩)) 66).alloc (.cells #[.bool false] 4))
  have hsz : W0.heap.size = w.heap.size + 3 := by rw [hW0]; simp
  have hB0 : Below w.heap.size w W0 := by rw [hW0]; exact bel_alloc (bel_alloc (bel_alloc (Below.refl _ _) _) _) _
  have bR : Boxed W0 (w.heap.size + 1) 4 (.bool false) := by
    rw [hW0]
    have := (Boxed.new (w.alloc (.cells #[.int .i64 x.t, .int .i64 x.i, .int .u8 x.k, .int .u64 x.p0, .int .u64 x.p1, .int .u64 x.p2, .int .u64 x.p3, .int .u64 x.p4, .int .u64 x.p5, .int .i64 x.v, .int .i64 x.u, .int .i64 x.a, .int .i64 x.s, .int .i64 x.re, .bool x.rf, .int .u64 x.rk, .int .u64 x.rv, .int .i64 x.rc, .pointer (some ⟨B, 0, none⟩)] 66)) 4 (.bool false)).alloc (.cells #[.int .i64 x.t, .int .i64 x.i, .int .u8 x.k, .int .u64 x.p0, .int .u64 x.p1, .int .u64 x.p2, .int .u64 x.p3, .int .u64 x.p4, .int .u64 x.p5, .int .i64 x.v, .int .i64 x.u, .int .i64 x.a, .int .i64 x.s, .int .i64 x.re, .bool x.rf, .int .u64 x.rk, .int .u64 x.rv, .int .i64 x.rc] 47)
    rwa [World.size_alloc] at this
  have bX : W0.heap[w.heap.size]? = some (.cells #[.int .i64 x.t, .int .i64 x.i, .int .u8 x.k, .int .u64 x.p0, .int .u64 x.p1, .int .u64 x.p2, .int .u64 x.p3, .int .u64 x.p4, .int .u64 x.p5, .int .i64 x.v, .int .i64 x.u, .int .i64 x.a, .int .i64 x.s, .int .i64 x.re, .bool x.rf, .int .u64 x.rk, .int .u64 x.rv, .int .i64 x.rc, .pointer (some ⟨B, 0, none⟩)] 66 (0, 0)) := by
    rw [hW0, (MapKept.heap_alloc _ _).2 _ (by simp; omega), (MapKept.heap_alloc _ _).2 _ (by simp)]
    exact (MapKept.heap_alloc _ _).1
  have bC : KC.At W0 (w.heap.size + 1 + 1) 0 x := by
    rw [hW0]
    have := KC.at_new ((w.alloc (.cells #[.int .i64 x.t, .int .i64 x.i, .int .u8 x.k, .int .u64 x.p0, .int .u64 x.p1, .int .u64 x.p2, .int .u64 x.p3, .int .u64 x.p4, .int .u64 x.p5, .int .i64 x.v, .int .i64 x.u, .int .i64 x.a, .int .i64 x.s, .int .i64 x.re, .bool x.rf, .int .u64 x.rk, .int .u64 x.rv, .int .i64 x.rc, .pointer (some ⟨B, 0, none⟩)] 66)).alloc (.cells #[.bool false] 4)) x
    rwa [World.size_alloc, World.size_alloc] at this
  have hX : ∀ b, (fun b => b = w.heap.size + 2) b → b < W0.heap.size := fun b hb => by
    have hb : b = w.heap.size + 2 := hb
    omega
  have HS := Lib.hid (steps_stops F hF hro (n - 1) (by omega) (w.heap.size + 1 + 1) x (fun b => b = w.heap.size + 2) W0 bC)
  have HO := Lib.hid hO
  have HP := Lib.hid hP
  have HBD := Lib.hid hb
  have hPl := cell_lt hP
  have hMl := hO.lt
  clear hO hP hb bC
  refine callsIn_of_wp_marks Try.func54 rfl (hF _) ?_ hro
  simp only [Try.ntmps54, List.size_toArray, List.length_cons, List.length_nil, Nat.reduceAdd, Nat.reduceSub, Array.replicate_succ, Array.replicate_zero, List.push_toArray, List.append_toArray, List.nil_append, List.cons_append]
  gi_wp2_with (first | (refine ldIn rfl (.tmp 6) rfl _ _ rfl x L1.out ?_) | (gi_at_call 56; refine (steps_in F (n - 1) (hF _) hro x _).mono ?_; rintro e w' ⟨rfl, rfl⟩))
  rw [← hW0]
  clear hW0 L1
  refine wpIn_rangeFunc_ownF hro h1 (gf := 66) (lb := #[.pointer (some ⟨w.heap.size + 1 + 1, 0, none⟩)]) rfl (hF _) (enters_of Try.func66 (by kernel_rfl) rfl)
    HS.out KX.trans (KX.put hX) (Below.refl _ _) (fun _ => rfl)
    (fun pre W => ((Boxed W (w.heap.size + 1) 4 (.bool false) ∧ W.heap[w.heap.size]? = some (.cells #[.int .i64 x.t, .int .i64 x.i, .int .u8 x.k, .int .u64 x.p0, .int .u64 x.p1, .int .u64 x.p2, .int .u64 x.p3, .int .u64 x.p4, .int .u64 x.p5, .int .i64 x.v, .int .i64 x.u, .int .i64 x.a, .int .i64 x.s, .int .i64 x.re, .bool x.rf, .int .u64 x.rk, .int .u64 x.rv, .int .i64 x.rc, .pointer (some ⟨B, 0, none⟩)] 66 (0, 0))) ∧ Below w.heap.size w W) ∧ ∀ j ∈ pre, okB f x (sel x j) = true)
    (fun cc pre W => ((Boxed W (w.heap.size + 1) 4 (.bool false) ∧ Below w.heap.size w W) ∧ (∃ j ∈ pre, okB f x (sel x j) = false)) ∧ cc = .ret)
    (OwnFrom.and (OwnFrom.and (OwnFrom.and (Own.from (boxed_own _ _ _) _) (Own.from (cells_own _ _ rfl) _)) (ownFrom_below (Nat.le_refl _) (by omega))) (ownFrom_pure _ _))
    (fun cc => OwnFrom.and (OwnFrom.and (OwnFrom.and (Own.from (boxed_own _ _ _) _) (ownFrom_below (Nat.le_refl _) (by omega))) (ownFrom_pure _ _)) (ownFrom_pure _ _))
    ⟨⟨⟨bR, bX⟩, hB0⟩, fun x hx => by cases hx⟩
    (fun j => { tmps := #[.agg #[.int .i64 x.t, .int .i64 x.i, .int .u8 x.k, .int .u64 x.p0, .int .u64 x.p1, .int .u64 x.p2, .int .u64 x.p3, .int .u64 x.p4, .int .u64 x.p5, .int .i64 x.v, .int .i64 x.u, .int .i64 x.a, .int .i64 x.s, .int .i64 x.re, .bool x.rf, .int .u64 x.rk, .int .u64 x.rv, .int .i64 x.rc, .pointer (some ⟨B, 0, none⟩)], .pointer (some ⟨w.heap.size, 0, none⟩), .pointer (some ⟨w.heap.size + 1, 0, none⟩), .int .i64 (sel x j), undef, undef, .pointer (some ⟨w.heap.size, 0, none⟩), .agg #[.int .i64 x.t, .int .i64 x.i, .int .u8 x.k, .int .u64 x.p0, .int .u64 x.p1, .int .u64 x.p2, .int .u64 x.p3, .int .u64 x.p4, .int .u64 x.p5, .int .i64 x.v, .int .i64 x.u, .int .i64 x.a, .int .i64 x.s, .int .i64 x.re, .bool x.rf, .int .u64 x.rk, .int .u64 x.rv, .int .i64 x.rc], .func (.func 66) #[] #[.pointer (some ⟨w.heap.size + 1 + 1, 0, none⟩)], .int .i64 (sel x j), undef, undef, undef, undef, undef, undef, undef, undef, undef, undef, undef, undef, undef, undef, undef, undef, undef, undef], defers := [] }) ?assign ?body ?done ?stop
  case assign =>
    intro l j W K hK
    gi_wp2
    exact hK
  case body =>
    rintro l pre j W ⟨⟨⟨hr, hx⟩, hB⟩, hall⟩ hlt
    have hcr := hr.cell
    have hfr := hr.frozen
    obtain ⟨x0, x18⟩ := at_blk hx
    have hp := (HP.out.symm ▸ (hB.cell (p := ⟨B, 1217, none⟩) hPl) : W.cell? ⟨B, 1217, none⟩ = some (.map (some M)))
    have hbd := sel_bd HBD.out j
    obtain ⟨z, hz⟩ : ∃ z, sel x j = z := ⟨_, rfl⟩
    rw [hz] at hbd
    have HZ := Lib.hid hz
    obtain ⟨c, b, hrun, hfs⟩ := (HO.out.bel hB hMl).look hbd
    have HALL := Lib.hid hall
    have HX := Lib.hid hx
    rw [hz]
    clear hall hx HO HP HBD HS hz hbd
    have hno : okB f x z = false → ∀ (W' : World), Boxed W' (w.heap.size + 1) 4 (.bool false) → Below w.heap.size w W' → ((Boxed W' (w.heap.size + 1) 4 (.bool false) ∧ Below w.heap.size w W') ∧ (∃ j' ∈ pre ++ [j], okB f x (sel x j') = false)) := fun h W' h1 h2 => ⟨⟨h1, h2⟩, j, by simp, by rw [HZ.out]; exact h⟩
    have hyes : okB f x z = true → ∀ y ∈ pre ++ [j], okB f x (sel x y) = true := fun h y hy => by
      rcases List.mem_append.1 hy with h' | h'
      · exact HALL.out y h'
      · rw [List.mem_singleton] at h'; subst h'; rw [HZ.out]; exact h
    have HNO := Lib.hid hno
    have HYES := Lib.hid hyes
    clear hno hyes
    rcases hfs with ⟨hf1, rfl⟩ | ⟨hf1, rfl⟩
    · by_cases hc : c = x.t
      · have hok : okB f x z = true := by unfold okB; rw [hf1]; simpa using hc
        have d0 : (c != x.t) = false := by simpa using hc
        have HOK := Lib.hid hok
        clear hok hf1 hc
        gi_wp2
        exact ⟨KeepsOthers.refl _, KX.refl _ _, ⟨⟨⟨hr, HX.out⟩, hB⟩, HYES.out HOK.out⟩⟩
      · have hok : okB f x z = false := by unfold okB; rw [hf1]; simpa using hc
        have d0 : (c != x.t) = true := by simpa using hc
        have HOK := Lib.hid hok
        clear hok hf1 hc
        gi_wp2
        exact ⟨KeepsOthers.setCell _ _ _, HNO.out HOK.out _ (hr.set _) (hB.setCell (p := ⟨w.heap.size + 1, 0, none⟩) (by simp) _), rfl⟩
    · have hok : okB f x z = true := by unfold okB; rw [hf1]
      have HOK := Lib.hid hok
      clear hok hf1
      gi_wp2
      exact ⟨KeepsOthers.refl _, KX.refl _ _, ⟨⟨⟨hr, HX.out⟩, hB⟩, HYES.out HOK.out⟩⟩
  case stop =>
    rintro D cc pre W hD hpre ⟨⟨⟨hr, hB⟩, j, hj, hx⟩, rfl⟩ hK
    have HV := Lib.hid (show clB f x = false by
      rw [clB_spL]
      exact List.all_eq_false.2 ⟨j, hpre.subset hj, by rw [hx]; exact Bool.false_ne_true⟩)
    clear hx hpre
    gi_wp2
    refine ⟨by simp, .inl ⟨_, _, rfl, run_takeDeferred hK, ?_⟩⟩
    exact ⟨_, res_one rfl rfl (load_bool (boxed_put hr hK rfl)), by rw [HV.out], hB.trans (belowK_b (w := w) (Nat.le_refl _) W D _ _ (by omega) hK rfl rfl)⟩
  case done =>
    rintro D ys W hD rfl ⟨⟨⟨hr, hx⟩, hB⟩, hall⟩ hK
    have HV := Lib.hid (show clB f x = true by
      rw [clB_spL, List.all_eq_true]; exact hall)
    have hcr := hr.cell
    have hfr := hr.frozen
    clear hall hx
    gi_wp2
    have hr2 : Boxed (W.setCell ⟨w.heap.size + 1, 0, none⟩ (.bool true)) (w.heap.size + 1) 4 (.bool true) := hr.set _
    have hB2 : Below w.heap.size w (W.setCell ⟨w.heap.size + 1, 0, none⟩ (.bool true)) := hB.setCell (p := ⟨w.heap.size + 1, 0, none⟩) (by simp) _
    have hK2 : (W.setCell ⟨w.heap.size + 1, 0, none⟩ (.bool true)).heap[D]? = some (.deferred (some [])) := (Below.heap_setCell _ _ _ _ (by show D ≠ w.heap.size + 1; omega)).trans hK
    refine ⟨by simp, .inl ⟨_, _, rfl, run_takeDeferred hK2, ?_⟩⟩
    exact ⟨_, res_one rfl rfl (load_bool (boxed_put hr2 hK2 rfl)), by rw [HV.out], hB2.trans (belowK_b (w := w) (Nat.le_refl _) _ D _ _ (by omega) hK2 rfl rfl)⟩
end Hi
end Go.Proofs.Ytgfhfcjjodcgdaa
