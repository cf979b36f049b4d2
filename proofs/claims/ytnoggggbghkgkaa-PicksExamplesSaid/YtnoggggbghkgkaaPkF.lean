/- fitsCounts of package picks: contract of the translated code. Conditions: those of each lemma. -/
import Derived.Test.YtnoggggbghkgkaaPkE
namespace Go.Proofs.Ytnoggggbghkgkaa
open Go.RowKit Go.Shelf Go.Sort
set_option linter.unusedVariables false
set_option linter.unusedSimpArgs false
attribute [local go_sem] Oper.semAt_some
namespace Pk
open Dm (RdK BdI bel_alloc bel_trans cell_lt flatI info info_parts row_rd app1)
theorem res_one {fn : Func} {tmps : Array Value} {W : World} {a ty : Nat} {ad : Addr} {x : Value} (hfn : fn.results = #[.cell a ty]) (h1 : tmps.getD a undef = .pointer (some ad)) (h2 : (loadVar ty ad).run Try.prog W = .ok x W) : (results fn tmps).run Try.prog W = .ok x W := by
  unfold results
  rw [hfn]
  have ha : asAddr (tmps[a]?.getD undef) = pure ad := by rw [show tmps[a]?.getD undef = tmps.getD a undef by simp, h1]; rfl
  simp [ha, h2]
theorem load_err {W : World} {b : Nat} {x : Int} (h : Boxed W b 24 (.int .i64 x)) : (loadVar 24 ⟨b, 0, none⟩).run Try.prog W = .ok (.int .i64 x) W := by
  have c := h.cell
  simp [go_sem, c]
theorem boxed_put {W : World} {B D : Nat} {t : TypeId} {v : Value} {o o' : Obj} (h : Boxed W B t v) (hD : W.heap[D]? = some o) (ho : o.isCells = false) : Boxed (W.putObj D o') B t v := by
  have hne : B ≠ D := fun e => by
    subst e
    rw [show W.heap[B]? = _ from h] at hD
    cases hD; cases ho
  exact (World.putObj_heap_other hne).trans h
theorem Om_drew {B : Nat} {a w : World} (h : Below B a w) : Below B a w.drew := ⟨h.os, h.tape, h.output, h.size, h.block⟩
theorem own_block {β : Type} {B D : Nat} {o : Obj} (hD : D < B) : OwnFrom B (fun (_ : β) W => W.heap[D]? = some o) := fun s W W' row h hg hr => (hg.block D (Array.getElem?_eq_some_iff.1 h).1 (fun e => by have := (hr D e.symm).1; omega)).trans h
set_option maxRecDepth 100000 in
set_option maxHeartbeats 2000000 in
theorem fitsCounts_in (F : Fence) (hF : ∀ f, F.fn f) (hro : F.round = none) (n : Nat) (hn : 3 ≤ n) (A : Option Addr) (m c : Nat) (xs : List Int) (hl : xs.length = m) (hmc : m ≤ c) (hcx : c ≤ 9223372036854775807) (hb : BdI xs) (w : World) (hrd : RdK .i64 w A xs) :
    CallsIn F n Try.prog 45 #[.slice A m c] w fun e w' => e = .returned (.int .i64 (fcE xs)) ∧ Below w.heap.size w w' := by
  have h1 : 1 ≤ n := by omega
  have hf1 := hF 46
  have hmx : (m : Int) ≤ 9223372036854775807 := by omega
  by_cases hodd : m % 2 ≠ 0
  · have HV := Lib.hid (fcE_odd (l := xs) (by rw [hl]; exact hodd))
    have e0 : ((m : Int) % 2 != 0) = true := by simp; omega
    have e1 : ((m : Int) % 2 == 0) = false := by simp; omega
    clear hodd hl hrd
    refine callsIn_of_wp Try.func45 rfl (hF _) ?_ hro
    simp only [Try.ntmps45, List.size_toArray, List.length_cons, List.length_nil, Nat.reduceAdd, Nat.reduceSub, Array.replicate_succ, Array.replicate_zero, List.push_toArray, List.append_toArray, List.nil_append, List.cons_append]
    gi_wp2
    refine bodyPost_ret (v := .int .i64 2) (by simp [results, Try.results45, go_sem]) rfl ⟨by rw [HV.out], bel_alloc (Below.refl _ _) _⟩
  · obtain ⟨k, hk⟩ : ∃ k, 2 * k = m := ⟨m / 2, by omega⟩
    have hkl : 2 * k = xs.length := by omega
    have hev : xs.length % 2 = 0 := by omega
    have hk2 : xs.length / 2 = k := by omega
    have e2 : (m : Int) % 2 = 0 := by omega
    obtain ⟨b, o, hA⟩ : ∃ b o, 0 < k → A = some ⟨b, o, none⟩ := by
      by_cases h0 : 0 < k
      · obtain ⟨b, o, e, _⟩ := hrd 0 (by omega)
        exact ⟨b, o, fun _ => e⟩
      · exact ⟨0, 0, fun h => absurd h h0⟩
    have hbd : ∀ x : Fin k, -9223372036854775808 ≤ cnt xs x.val ∧ cnt xs x.val ≤ 9223372036854775807 := fun x => hb _ (by have := x.isLt; omega)
    have PC := fun W (hB : Below w.heap.size w W) (x : Fin k) => Lib.hid (pair_cells hkl hA hrd hB x)
    obtain ⟨W0, hW0⟩ : ∃ W0 : World, W0 = ((w.alloc (.cells #[.int .i64 0] 24)).alloc (.cells #[.slice A m c] 22)).alloc (.cells #[.int .i64 2] 3) := ⟨_, rfl⟩
    have hsz : W0.heap.size = w.heap.size + 3 := by rw [hW0]; simp
    have hB0 : Below w.heap.size w W0 := by rw [hW0]; exact bel_alloc (bel_alloc (bel_alloc (Below.refl _ _) _) _) _
    have bR : Boxed W0 w.heap.size 24 (.int .i64 0) := by rw [hW0]; exact ((Boxed.new w _ _).alloc _).alloc _
    have bS : Boxed W0 (w.heap.size + 1) 22 (.slice A m c) := by
      rw [hW0]
      have := (Boxed.new (w.alloc (.cells #[.int .i64 0] 24)) 22 (.slice A m c)).alloc (.cells #[.int .i64 2] 3)
      rwa [World.size_alloc] at this
    have bN : Boxed W0 (w.heap.size + 2) 3 (.int .i64 2) := by
      rw [hW0]
      have := Boxed.new ((w.alloc (.cells #[.int .i64 0] 24)).alloc (.cells #[.slice A m c] 22)) 3 (.int .i64 2)
      rwa [World.size_alloc, World.size_alloc] at this
    have hX : ∀ b, (fun b => b = w.heap.size + 1 ∨ b = w.heap.size + 2) b → b < W0.heap.size := fun b hb => by
      have hb : b = w.heap.size + 1 ∨ b = w.heap.size + 2 := hb
      omega
    have HS := Lib.hid (chunk_stops' F hF hro (n - 1) (by omega) (w.heap.size + 1) (w.heap.size + 2) b o k m c hk A hA hmc hcx (fun b => b = w.heap.size + 1 ∨ b = w.heap.size + 2) (.inl rfl) (.inr rfl) W0 hX bS.cell bN.cell)
    have HA := Lib.hid hA
    have HB := Lib.hid hb
    clear hA hrd hl hb hodd
    refine callsIn_of_wp_marks Try.func45 rfl (hF _) ?_ hro
    simp only [Try.ntmps45, List.size_toArray, List.length_cons, List.length_nil, Nat.reduceAdd, Nat.reduceSub, Array.replicate_succ, Array.replicate_zero, List.push_toArray, List.append_toArray, List.nil_append, List.cons_append]
    gi_wp2_with (gi_at_call 46; refine (chunk_in F (n - 1) hf1 hro A m c _).mono ?_; rintro e w' ⟨rfl, rfl⟩)
    rw [← hW0]
    clear hW0
    refine wpIn_rangeFunc_ownF hro h1 (gf := 50) (lb := #[.pointer (some ⟨w.heap.size + 1, 0, none⟩), .pointer (some ⟨w.heap.size + 2, 0, none⟩)]) rfl (hF _) (enters_of Try.func50 (by kernel_rfl) rfl)
      HS.out KX.trans (KX.put hX) (Below.refl _ _) (fun _ => rfl)
      (fun pre W => (Boxed W w.heap.size 24 (.int .i64 0) ∧ Below w.heap.size w W) ∧ ∀ x ∈ pre, 0 ≤ cnt xs x.val)
      (fun cc pre W => ((Boxed W w.heap.size 24 (.int .i64 2) ∧ Below w.heap.size w W) ∧ (∃ x : Fin k, cnt xs x.val < 0)) ∧ cc = .ret)
      (OwnFrom.and (OwnFrom.and (Own.from (boxed_own _ _ (fun _ => .int .i64 0)) _) (ownFrom_below (Nat.le_refl _) (by omega))) (ownFrom_pure _ _))
      (fun cc => OwnFrom.and (OwnFrom.and (OwnFrom.and (Own.from (boxed_own _ _ (fun _ => .int .i64 2)) _) (ownFrom_below (Nat.le_refl _) (by omega))) (ownFrom_pure _ _)) (ownFrom_pure _ _))
      ⟨⟨bR, hB0⟩, fun x hx => by cases hx⟩
      (fun x => { tmps := #[.slice A m c, undef, .pointer (some ⟨w.heap.size, 0, none⟩), .slice (some ⟨b, o + 2 * x.val, none⟩) 2 2, undef, undef, .slice A m c, .int .i64 m, .int .i64 0, .bool false, .slice A m c, .func (.func 50) #[] #[.pointer (some ⟨w.heap.size + 1, 0, none⟩), .pointer (some ⟨w.heap.size + 2, 0, none⟩)], .slice (some ⟨b, o + 2 * x.val, none⟩) 2 2, undef, undef, undef, undef, undef, undef, undef, undef, undef, undef, undef, undef, undef, undef, undef, undef, undef], defers := [] }) ?assign ?body ?done ?stop
    case assign =>
      intro l x W K hK
      gi_wp2
      exact hK
    case body =>
      rintro l pre x W ⟨⟨hr, hB⟩, hall⟩ hlt
      have hcr := hr.cell
      have hfr := hr.frozen
      obtain ⟨c0, c1⟩ := (PC W hB x).out
      obtain ⟨q1, q2⟩ := hbd x
      have HALL := Lib.hid hall
      clear hall PC hbd
      obtain ⟨z, hz⟩ : ∃ z, cnt xs x.val = z := ⟨_, rfl⟩
      have HZ := Lib.hid hz
      rw [hz] at c1 q1 q2
      clear hz
      generalize pck xs x.val = pv at *
      by_cases hneg : z < 0
      · have d0 := decide_eq_true hneg
        gi_wp2
        exact ⟨KeepsOthers.setCell _ _ _, ⟨⟨hr.set _, hB.setCell (p := ⟨w.heap.size, 0, none⟩) (Nat.le_refl _) _⟩, ⟨x, by rw [HZ.out]; exact hneg⟩⟩, rfl⟩
      · have d0 := decide_eq_false hneg
        gi_wp2
        refine ⟨KeepsOthers.refl _, KX.refl _ _, ⟨⟨hr, hB⟩, fun y hy => ?_⟩⟩
        rcases List.mem_append.1 hy with h | h
        · exact HALL.out y h
        · rw [List.mem_singleton] at h; subst h; rw [HZ.out]; omega
    case stop =>
      rintro D cc pre W hD _ ⟨⟨⟨hr, hB⟩, ⟨x, hx⟩⟩, rfl⟩ hK
      have HV := Lib.hid (fcE_neg hev ⟨x.val, by have := x.isLt; omega, hx⟩)
      clear hx
      gi_wp2
      refine ⟨by simp, .inl ⟨_, _, rfl, run_takeDeferred hK, ?_⟩⟩
      exact ⟨_, res_one rfl rfl (load_err (boxed_put hr hK rfl)), by rw [HV.out], hB.trans (belowK_b (w := w) (Nat.le_refl _) W D _ _ (by omega) hK rfl rfl)⟩
    case done =>
      rintro D ys W hD rfl ⟨⟨hr, hB⟩, hall⟩ hK
      have hnn : ∀ x : Fin k, 0 ≤ cnt xs x.val := fun x => hall x (List.mem_finRange x)
      have HNN := Lib.hid hnn
      have hDW : D < W.heap.size := (Array.getElem?_eq_some_iff.1 hK).1
      have hwW := hB.size
      obtain ⟨W1, hW1⟩ : ∃ W1 : World, W1 = ((W.alloc (.cells #[.int .i64 65536] 3)).alloc (.cells #[.slice A m c] 22)).alloc (.cells #[.int .i64 2] 3) := ⟨_, rfl⟩
      have hsz1 : W1.heap.size = W.heap.size + 3 := by rw [hW1]; simp
      have hB01 : Below W.heap.size W W1 := by rw [hW1]; exact bel_alloc (bel_alloc (bel_alloc (Below.refl _ _) _) _) _
      have hB1 : Below w.heap.size w W1 := hB.trans (hB01.mono hwW)
      have bR1 : Boxed W1 w.heap.size 24 (.int .i64 0) := by rw [hW1]; exact ((hr.alloc _).alloc _).alloc _
      have bL1 : Boxed W1 W.heap.size 3 (.int .i64 65536) := by rw [hW1]; exact ((Boxed.new W _ _).alloc _).alloc _
      have bS1 : Boxed W1 (W.heap.size + 1) 22 (.slice A m c) := by
        rw [hW1]
        have := (Boxed.new (W.alloc (.cells #[.int .i64 65536] 3)) 22 (.slice A m c)).alloc (.cells #[.int .i64 2] 3)
        rwa [World.size_alloc] at this
      have bN1 : Boxed W1 (W.heap.size + 2) 3 (.int .i64 2) := by
        rw [hW1]
        have := Boxed.new ((W.alloc (.cells #[.int .i64 65536] 3)).alloc (.cells #[.slice A m c] 22)) 3 (.int .i64 2)
        rwa [World.size_alloc, World.size_alloc] at this
      have hK1 : W1.heap[D]? = some (.deferred (some [])) := (hB01.block D hDW).trans hK
      have hX1 : ∀ b, (fun b => b = W.heap.size + 1 ∨ b = W.heap.size + 2) b → b < W1.heap.size := fun b hb => by
        have hb : b = W.heap.size + 1 ∨ b = W.heap.size + 2 := hb
        omega
      have HS1 := Lib.hid (chunk_stops' F hF hro (n - 1) (by omega) (W.heap.size + 1) (W.heap.size + 2) b o k m c hk A HA.out hmc hcx (fun b => b = W.heap.size + 1 ∨ b = W.heap.size + 2) (.inl rfl) (.inr rfl) W1 hX1 bS1.cell bN1.cell)
      have hrlt := hr.lt
      have hDw : w.heap.size < D := by omega
      clear hr hall hK hB hnn HS hX bR bS bN hB0 hsz
      gi_wp2_with (gi_at_call 46; refine (chunk_in F (n - 1) hf1 hro A m c _).mono ?_; rintro e w' ⟨rfl, rfl⟩)
      rw [← hW1]
      clear hW1
      refine wpIn_rangeFunc_ownF hro h1 (gf := 50) (lb := #[.pointer (some ⟨W.heap.size + 1, 0, none⟩), .pointer (some ⟨W.heap.size + 2, 0, none⟩)]) rfl (hF _) (enters_of Try.func50 (by kernel_rfl) rfl)
        HS1.out KX.trans (KX.put hX1) (Below.refl _ _) (fun _ => rfl)
        (fun pre V => (((Boxed V w.heap.size 24 (.int .i64 0) ∧ Boxed V W.heap.size 3 (.int .i64 (65536 - smF xs pre))) ∧ Below w.heap.size w V) ∧ V.heap[D]? = some (.deferred (some []))) ∧ (0 ≤ smF xs pre ∧ smF xs pre ≤ 65536))
        (fun cc pre V => (((Boxed V w.heap.size 24 (.int .i64 5) ∧ Below w.heap.size w V) ∧ V.heap[D]? = some (.deferred (some []))) ∧ (∃ (pr : List (Fin k)) (x : Fin k), pre = pr ++ [x] ∧ 65536 - smF xs pr < cnt xs x.val)) ∧ cc = .ret)
        (OwnFrom.and (OwnFrom.and (OwnFrom.and (OwnFrom.and (Own.from (boxed_own _ _ (fun _ => .int .i64 0)) _) (Own.from (boxed_own _ _ (fun pre => .int .i64 (65536 - smF xs pre))) _)) (ownFrom_below (Nat.le_refl _) (by omega))) (own_block (by omega))) (ownFrom_pure _ _))
        (fun cc => OwnFrom.and (OwnFrom.and (OwnFrom.and (OwnFrom.and (Own.from (boxed_own _ _ (fun _ => .int .i64 5)) _) (ownFrom_below (Nat.le_refl _) (by omega))) (own_block (by omega))) (ownFrom_pure _ _)) (ownFrom_pure _ _))
        ⟨⟨⟨⟨bR1, bL1⟩, hB1⟩, hK1⟩, by simp [smF]⟩
        (fun x => { tmps := #[.slice A m c, undef, .pointer (some ⟨w.heap.size, 0, none⟩), undef, .pointer (some ⟨W.heap.size, 0, none⟩), .slice (some ⟨b, o + 2 * x.val, none⟩) 2 2, .slice A m c, .int .i64 m, .int .i64 0, .bool false, .slice A m c, .func (.func 50) #[] #[.pointer (some ⟨w.heap.size + 1, 0, none⟩), .pointer (some ⟨w.heap.size + 2, 0, none⟩)], undef, undef, undef, undef, undef, .slice A m c, .func (.func 50) #[] #[.pointer (some ⟨W.heap.size + 1, 0, none⟩), .pointer (some ⟨W.heap.size + 2, 0, none⟩)], .slice (some ⟨b, o + 2 * x.val, none⟩) 2 2, undef, undef, undef, undef, undef, undef, undef, undef, undef, undef], defers := [] }) ?assign ?body ?done ?stop
      case assign =>
        intro l x V K hK
        gi_wp2
        exact hK
      case body =>
        rintro l pre x V ⟨⟨⟨⟨hr, hL⟩, hB⟩, hK⟩, hs0, hs1⟩ hlt
        have hcr := hr.cell
        have hfr := hr.frozen
        have hcl := hL.cell
        have hfl := hL.frozen
        obtain ⟨c0, c1⟩ := (PC V hB x).out
        have q1 := HNN.out x
        have q2 := (hbd x).2
        have HSS := Lib.hid (smF_snoc xs pre x)
        obtain ⟨s, hs⟩ : ∃ s, smF xs pre = s := ⟨_, rfl⟩
        have HSE := Lib.hid hs
        rw [hs] at hs0 hs1 hcl HSS hL
        obtain ⟨z, hz⟩ : ∃ z, cnt xs x.val = z := ⟨_, rfl⟩
        have HZ := Lib.hid hz
        rw [hz] at c1 q1 q2 HSS
        have hmix : Try.prog.follows .mixedOrders = true := by kernel_rfl
        clear hz hs PC hbd
        generalize pck xs x.val = pv at *
        by_cases hneg : 65536 - s < z
        · have d0 := decide_eq_true hneg
          have HNG := Lib.hid hneg
          clear hneg
          gi_wp2
          gi_region_with_o (fail)
          all_goals gi_wp2
          all_goals exact ⟨(KeepsOthers.drew _).trans (KeepsOthers.setCell _ _ _), ⟨⟨⟨Boxed.set (W := V.drew) _ hr, (Om_drew hB).setCell (p := ⟨w.heap.size, 0, none⟩) (Nat.le_refl _) _⟩, (Below.heap_setCell _ _ _ _ (by show D ≠ w.heap.size; omega)).trans hK⟩, ⟨pre, x, rfl, by rw [HZ.out, HSE.out]; exact HNG.out⟩⟩, rfl⟩
        · have d0 := decide_eq_false hneg
          have HNG := Lib.hid (show z ≤ 65536 - s by omega)
          have k1 : -9223372036854775808 ≤ 65536 - s - z := by omega
          have k2 : 65536 - s - z ≤ 9223372036854775807 := by omega
          clear hneg
          gi_wp2
          gi_region_with_o (fail)
          all_goals gi_wp2
          all_goals gi_region_with_o (fail)
          all_goals gi_wp2
          all_goals
            rw [IntWalk.i64_in _ (by omega)]
            exact ⟨(KeepsOthers.setCell _ _ _).trans ((KeepsOthers.drew _).trans (KeepsOthers.drew _)), (KX.set (by omega)).trans ((KX.refl _ _)), ⟨⟨⟨⟨hr.other (by omega) _, by rw [HSS.out, show (65536 : Int) - (s + z) = 65536 - s - z by omega]; exact hL.set _⟩, Om_drew (Om_drew (hB.setCell (p := ⟨W.heap.size, 0, none⟩) (by show w.heap.size ≤ W.heap.size; omega) _))⟩, (Below.heap_setCell _ _ _ _ (by show D ≠ W.heap.size; omega)).trans hK⟩, by rw [HSS.out]; exact ⟨by omega, by have := HNG.out; omega⟩⟩⟩
      case stop =>
        rintro D2 cc pre V hD2 hpre ⟨⟨⟨⟨hr, hB⟩, hK⟩, ⟨pr, x, rfl, hx⟩⟩, rfl⟩ hK2
        rw [pre_snoc hpre] at hx
        have HV := Lib.hid (fcE_long hev (by rintro ⟨j, hj, hn⟩; have := HNN.out ⟨j, by omega⟩; simp at this; omega) ⟨x.val, by have := x.isLt; omega, hx⟩)
        clear hx
        gi_wp2
        have hne : D ≠ D2 := by omega
        have hK3 : (V.putObj D2 (.deferred none)).heap[D]? = some (.deferred (some [])) := (World.putObj_heap_other hne).trans hK
        refine ⟨by simp, .inl ⟨_, _, rfl, run_takeDeferred hK2, ⟨by simp, .inl ⟨_, _, rfl, run_takeDeferred hK3, ?_⟩⟩⟩⟩
        exact ⟨_, res_one rfl rfl (load_err (boxed_put (boxed_put hr hK2 rfl) hK3 rfl)), by rw [HV.out], (hB.trans (belowK_b (w := w) (Nat.le_refl _) V D2 _ _ (by omega) hK2 rfl rfl)).trans (belowK_b (w := w) (Nat.le_refl _) _ D _ _ (by omega) hK3 rfl rfl)⟩
      case done =>
        rintro D2 ys V hD2 rfl ⟨⟨⟨⟨hr, hL⟩, hB⟩, hK⟩, hs0, hs1⟩ hK2
        have hcr := hr.cell
        have hfr := hr.frozen
        rw [smF_all] at hs1
        have HV := Lib.hid (fcE_ok hev (by rintro ⟨j, hj, hn⟩; have := HNN.out ⟨j, by omega⟩; simp at this; omega) (by
          rintro ⟨j, hj, hn⟩
          have h2 := sm_mono (l := xs) (k := k) (fun j hj => HNN.out ⟨j, hj⟩) (j + 1) (by omega)
          rw [sm] at h2
          omega))
        clear hs0 hs1 hL
        gi_wp2
        have hne : D ≠ D2 := by omega
        have hr2 : Boxed (V.setCell ⟨w.heap.size, 0, none⟩ (.int .i64 0)) w.heap.size 24 (.int .i64 0) := hr.set _
        have hB2 : Below w.heap.size w (V.setCell ⟨w.heap.size, 0, none⟩ (.int .i64 0)) := hB.setCell (p := ⟨w.heap.size, 0, none⟩) (Nat.le_refl _) _
        have hK2' : (V.setCell ⟨w.heap.size, 0, none⟩ (.int .i64 0)).heap[D2]? = some (.deferred (some [])) := (Below.heap_setCell _ _ _ _ (by show D2 ≠ w.heap.size; omega)).trans hK2
        have hK' : (V.setCell ⟨w.heap.size, 0, none⟩ (.int .i64 0)).heap[D]? = some (.deferred (some [])) := (Below.heap_setCell _ _ _ _ (by show D ≠ w.heap.size; omega)).trans hK
        have hK3 : ((V.setCell ⟨w.heap.size, 0, none⟩ (.int .i64 0)).putObj D2 (.deferred none)).heap[D]? = some (.deferred (some [])) := (World.putObj_heap_other hne).trans hK'
        refine ⟨by simp, .inl ⟨_, _, rfl, run_takeDeferred hK2', ⟨by simp, .inl ⟨_, _, rfl, run_takeDeferred hK3, ?_⟩⟩⟩⟩
        exact ⟨_, res_one rfl rfl (load_err (boxed_put (boxed_put hr2 hK2' rfl) hK3 rfl)), by rw [HV.out], (hB2.trans (belowK_b (w := w) (Nat.le_refl _) _ D2 _ _ (by omega) hK2' rfl rfl)).trans (belowK_b (w := w) (Nat.le_refl _) _ D _ _ (by omega) hK3 rfl rfl)⟩
end Pk
end Go.Proofs.Ytnoggggbghkgkaa
