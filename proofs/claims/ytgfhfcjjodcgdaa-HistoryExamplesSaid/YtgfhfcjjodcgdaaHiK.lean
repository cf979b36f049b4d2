/- Package history: conditions, its closure, and Check: contracts of the translated code. Conditions: numbers of their types, at most 1,000 calls. -/
import Derived.Test.YtgfhfcjjodcgdaaHiA
namespace Go.Proofs.Ytgfhfcjjodcgdaa
open Go.RowKit Go.Shelf Go.Sort
set_option linter.unusedVariables false
set_option linter.unusedSimpArgs false
namespace Hi
/-- a function for each condition -/
def cF (k : Nat) : FuncId := if k = 0 then 50 else if k = 1 then 51 else if k = 2 then 52 else if k = 3 then 53 else 54
def condB (l : List C) (x : C) (k : Nat) : Bool := if k = 0 then beginB l x else if k = 1 then takeB x else if k = 2 then endB x else if k = 3 then follB l x else partB l x
theorem good_all {l : List C} {x : C} (h : ∀ j, j < 5 → condB l x j = true) : goodB l x = true := by
  unfold goodB
  have h0 := h 0 (by omega)
  have h1 := h 1 (by omega)
  have h2 := h 2 (by omega)
  have h3 := h 3 (by omega)
  have h4 := h 4 (by omega)
  simp only [condB] at h0 h1 h2 h3 h4
  simp at h0 h1 h2 h3 h4
  simp [h0, h1, h2, h3, h4]
theorem good_not {l : List C} {x : C} {j : Nat} (hj : j < 5) (h : condB l x j = false) : goodB l x = false := by
  unfold goodB
  obtain rfl | rfl | rfl | rfl | rfl : j = 0 ∨ j = 1 ∨ j = 2 ∨ j = 3 ∨ j = 4 := by omega
  all_goals
    simp [condB] at h
    simp [h]
theorem callC_run {k : Nat} (hk : k < 5) (args : Array Value) (W : World) : (callFunc (cF k) args).run Try.prog W = .ok (.enter (cF k) args) W := by
  obtain rfl | rfl | rfl | rfl | rfl : k = 0 ∨ k = 1 ∨ k = 2 ∨ k = 3 ∨ k = 4 := by omega
  all_goals rfl
theorem cond_any {k : Nat} (hk : k < 5) (x : C) (B M : Nat) (l : List C) (w : World) (hP : Pa w B M l) (hw : WF l) (hl : l.length ≤ 1000) (hb : Bd1 x) (hj : ∀ j, j < k → condB l x j = true) :
    Calls Try.prog (cF k) #[.agg #[.int .i64 x.t, .int .i64 x.i, .int .u8 x.k, .int .u64 x.p0, .int .u64 x.p1, .int .u64 x.p2, .int .u64 x.p3, .int .u64 x.p4, .int .u64 x.p5, .int .i64 x.v, .int .i64 x.u, .int .i64 x.a, .int .i64 x.s, .int .i64 x.re, .bool x.rf, .int .u64 x.rk, .int .u64 x.rv, .int .i64 x.rc, .pointer (some ⟨B, 0, none⟩)]] w fun e w' => e = .returned (.bool (condB l x k)) ∧ Below w.heap.size w w' := by
  obtain rfl | rfl | rfl | rfl | rfl : k = 0 ∨ k = 1 ∨ k = 2 ∨ k = 3 ∨ k = 4 := by omega
  · exact begins_any x B M l w hP (WF_prev hw).1 (by omega)
  · exact takes_any x _ w
  · have h0 : beginB l x = true := hj 0 (by omega)
    simp [beginB] at h0
    exact ends_any x _ w hb (by omega)
  · have h0 : beginB l x = true := hj 0 (by omega)
    simp [beginB] at h0
    exact follows_any x B M l w hP (by omega) (by omega) (by omega)
  · have h := (callsIn_wide (n := 3)).1 (parts_in Fence.wide (fun _ => trivial) rfl 3 (by omega) x B M _ _ w hP.mp hP.ow hb)
    rw [clB_own hw] at h
    exact h
/-- the list of conditions in memory -/
structure Cn (W : World) (Bl Bf : Nat) : Prop where
  s : W.cell? ⟨Bl, 0, none⟩ = some (.slice (some ⟨Bf, 0, none⟩) 5 5)
  f : ∀ k, k < 5 → W.cell? ⟨Bf, k, none⟩ = some (.func (.func (cF k)) #[] #[])
theorem Cn.lt {W : World} {Bl Bf : Nat} (h : Cn W Bl Bf) : Bl < W.heap.size ∧ Bf < W.heap.size := ⟨cell_lt h.s, cell_lt (h.f 0 (by omega))⟩
theorem Cn.same {W W' : World} {Bl Bf : Nat} (h : Cn W Bl Bf) (h1 : W'.heap[Bl]? = W.heap[Bl]?) (h2 : W'.heap[Bf]? = W.heap[Bf]?) : Cn W' Bl Bf :=
  ⟨(World.cell?_of_block (a := ⟨Bl, 0, none⟩) h1).trans h.s, fun k hk => (World.cell?_of_block (a := ⟨Bf, k, none⟩) h2).trans (h.f k hk)⟩
theorem Cn.below {W W' : World} {Bl Bf : Nat} (h : Cn W Bl Bf) (hb : Below W.heap.size W W') : Cn W' Bl Bf := h.same (hb.block _ h.lt.1) (hb.block _ h.lt.2)
theorem conditions_any (w : World) : Calls Try.prog 32 #[] w fun e w' => e = .returned (.func (.func 55) #[] #[.pointer (some ⟨w.heap.size + 1, 0, none⟩)]) ∧ Below w.heap.size w w' ∧ Cn w' (w.heap.size + 1) w.heap.size := by
  go_enter Try.func32, Try.ntmps32
  go_wp2
  go_ret
  refine ⟨rfl, bel_alloc (bel_alloc (Below.refl _ _) _) _, ⟨?_, fun k hk => ?_⟩⟩
  · rw [show w.heap.size + 1 = (w.alloc (.cells #[.func (.func 50) #[] #[], .func (.func 51) #[] #[], .func (.func 52) #[] #[], .func (.func 53) #[] #[], .func (.func 54) #[] #[]] 61)).heap.size by simp, World.cell?_alloc_new]; rfl
  · rw [World.cell?_alloc_lt _ _ _ (by simp), World.cell?_alloc_new]
    obtain rfl | rfl | rfl | rfl | rfl : k = 0 ∨ k = 1 ∨ k = 2 ∨ k = 3 ∨ k = 4 := by omega
    all_goals rfl
theorem sz_callp : (Try.prog.info? 66).map (·.size) = some 19 := by kernel_rfl
theorem ldP {ops : Array Oper} {rest : List Oper} {op : Oper} {a : Act} {w : World} {Q : Exit → Act → World → Prop} (hgd : op.guard = none) (p : Operand) (ho : op.op = .load 66 p) (b : Nat) (hp : a.eval p = .pointer (some ⟨b, 0, none⟩)) (x : C) (v : Value) (hx : w.heap[b]? = some (.cells #[.int .i64 x.t, .int .i64 x.i, .int .u8 x.k, .int .u64 x.p0, .int .u64 x.p1, .int .u64 x.p2, .int .u64 x.p3, .int .u64 x.p4, .int .u64 x.p5, .int .i64 x.v, .int .i64 x.u, .int .i64 x.a, .int .i64 x.s, .int .i64 x.re, .bool x.rf, .int .u64 x.rk, .int .u64 x.rv, .int .i64 x.rc, v] 66 (0, 0)))
    (h : wpList Try.prog ops Q rest (a.put op.dst (.agg #[.int .i64 x.t, .int .i64 x.i, .int .u8 x.k, .int .u64 x.p0, .int .u64 x.p1, .int .u64 x.p2, .int .u64 x.p3, .int .u64 x.p4, .int .u64 x.p5, .int .i64 x.v, .int .i64 x.u, .int .i64 x.a, .int .i64 x.s, .int .i64 x.re, .bool x.rf, .int .u64 x.rk, .int .u64 x.rv, .int .i64 x.rc, v])) w) : wpList Try.prog ops Q (op :: rest) a w :=
  wpList_load_mid hgd _ p ho b 0 hp [.int .i64 x.t, .int .i64 x.i, .int .u8 x.k, .int .u64 x.p0, .int .u64 x.p1, .int .u64 x.p2, .int .u64 x.p3, .int .u64 x.p4, .int .u64 x.p5, .int .i64 x.v, .int .i64 x.u, .int .i64 x.a, .int .i64 x.s, .int .i64 x.re, .bool x.rf, .int .u64 x.rk, .int .u64 x.rv, .int .i64 x.rc, v] _ (fun j u hj => by simp only [World.cell?, hx, Nat.zero_add]; simpa using hj) Try.underlying66 rfl sz_callp h
set_option maxRecDepth 100000 in
set_option maxHeartbeats 1000000 in
theorem hold_any (x : C) (Bl Bf B M : Nat) (l : List C) (w : World) (hC : Cn w Bl Bf) (hP : Pa w B M l) (hw : WF l) (hl : l.length ≤ 1000) (hb : Bd1 x) :
    Calls Try.prog 55 #[.agg #[.int .i64 x.t, .int .i64 x.i, .int .u8 x.k, .int .u64 x.p0, .int .u64 x.p1, .int .u64 x.p2, .int .u64 x.p3, .int .u64 x.p4, .int .u64 x.p5, .int .i64 x.v, .int .i64 x.u, .int .i64 x.a, .int .i64 x.s, .int .i64 x.re, .bool x.rf, .int .u64 x.rk, .int .u64 x.rv, .int .i64 x.rc, .pointer (some ⟨B, 0, none⟩)], .pointer (some ⟨Bl, 0, none⟩)] w fun e w' => e = .returned (.bool (goodB l x)) ∧ Below w.heap.size w w' := by
  have CA := fun (k : Nat) (hk : k < 5) (W : World) hPW hj => Lib.hid (cond_any hk x B M l W hPW hw hl hb hj)
  obtain ⟨w1, hw1⟩ : ∃ w1 : World, w1 = w.alloc (.cells #[.int .i64 x.t, .int .i64 x.i, .int .u8 x.k, .int .u64 x.p0, .int .u64 x.p1, .int .u64 x.p2, .int .u64 x.p3, .int .u64 x.p4, .int .u64 x.p5, .int .i64 x.v, .int .i64 x.u, .int .i64 x.a, .int .i64 x.s, .int .i64 x.re, .bool x.rf, .int .u64 x.rk, .int .u64 x.rv, .int .i64 x.rc, .pointer (some ⟨B, 0, none⟩)] 66) := ⟨_, rfl⟩
  have b1 : Below w.heap.size w w1 := by rw [hw1]; exact bel_alloc (Below.refl _ _) _
  have k1 : w1.heap[w.heap.size]? = some (.cells #[.int .i64 x.t, .int .i64 x.i, .int .u8 x.k, .int .u64 x.p0, .int .u64 x.p1, .int .u64 x.p2, .int .u64 x.p3, .int .u64 x.p4, .int .u64 x.p5, .int .i64 x.v, .int .i64 x.u, .int .i64 x.a, .int .i64 x.s, .int .i64 x.re, .bool x.rf, .int .u64 x.rk, .int .u64 x.rv, .int .i64 x.rc, .pointer (some ⟨B, 0, none⟩)] 66 (0, 0)) := by rw [hw1]; exact at_call w x _
  have hs1 : w.heap.size < w1.heap.size := by rw [hw1]; simp
  have HC := Lib.hid (hC.below b1)
  have HP := Lib.hid (hP.below b1)
  have c0 := HC.out.s
  clear hC hP hw hl hb
  go_enter Try.func55, Try.ntmps55
  go_upto_region 1 with fail
  rw [← hw1]
  clear hw1
  go_wp2
  clear c0
  have B1 := Lib.hid b1
  have K1 := Lib.hid k1
  clear b1 k1
  go_loopw [8] (fun i wr => ∃ k : Nat, k ≤ 5 ∧ i = .int .i64 k ∧ (∀ j, j < k → condB l x j = true) ∧ Below w1.heap.size w1 wr) (fun i _ => 5 - (intOf i).toNat)
  case atStart => exact ⟨0, Nat.zero_le _, rfl, fun j hj => by omega, Below.refl _ _⟩
  case round =>
    obtain ⟨k, hk, rfl, hj, hbel⟩ := hrel
    obtain ⟨wq, rfl⟩ : ∃ wq : World, wq = wr := ⟨_, rfl⟩
    have HJ := Lib.hid hj
    have HB := Lib.hid hbel
    have KX := Lib.hid ((hbel.block _ hs1).trans K1.out)
    by_cases hlt : k < 5
    · have d0 : decide ((k : Int) < 5) = true := decide_eq_true (by omega)
      have k5 : (k : Int) < 5 := by omega
      have cf := (HC.out.below hbel).f k hlt
      have LF := fun args W => callC_run hlt args W
      have CK := CA k hlt wq (HP.out.below hbel) hj
      clear hj hbel CA
      by_cases hc : condB l x k = true
      · have HN := Lib.hid (show ∀ j, j < k + 1 → condB l x j = true from fun j h => by
          by_cases e : j = k
          · subst e; exact hc
          · exact HJ.out j (by omega))
        rw [hc] at CK
        clear hc
        generalize cF k = fk at *
        go_wp2_with (refine ldP rfl (.tmp 2) rfl _ rfl x _ KX.out ?_)
        refine CK.out.mono ?_
        rintro e w2 ⟨rfl, b2⟩
        have HB2 := Lib.hid (bel_trans HB.out b2)
        clear b2 cf LF CK
        go_wp2
        go_roundw
        case rel => exact ⟨k + 1, by omega, by go_num, HN.out, HB2.out⟩
        case measure => simp [intOf]; omega
      · rw [Bool.not_eq_true] at hc
        have HV := Lib.hid (good_not hlt hc)
        rw [hc] at CK
        clear hc
        generalize cF k = fk at *
        go_wp2_with (refine ldP rfl (.tmp 2) rfl _ rfl x _ KX.out ?_)
        refine CK.out.mono ?_
        rintro e w2 ⟨rfl, b2⟩
        have HB2 := Lib.hid (bel_trans HB.out b2)
        clear b2 cf LF CK
        go_wp2
        go_ret
        exact ⟨by rw [HV.out]; first | done | rfl, B1.out.trans (HB2.out.mono (Nat.le_of_lt hs1))⟩
    · obtain rfl : k = 5 := by omega
      have HV := Lib.hid (good_all HJ.out)
      have d0 : decide (((5 : Nat) : Int) < 5) = false := by decide
      clear hj hbel CA
      go_wp2
      go_ret
      exact ⟨by rw [HV.out]; first | done | rfl, B1.out.trans (HB.out.mono (Nat.le_of_lt hs1))⟩
end Hi
end Go.Proofs.Ytgfhfcjjodcgdaa
