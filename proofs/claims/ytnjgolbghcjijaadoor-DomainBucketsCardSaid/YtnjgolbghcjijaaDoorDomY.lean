/- Buckets of package domain, over the iterator of XDomW: contract of the translated code. Conditions: Tz; a set below 2^64. -/
import Derived.Test.YtnjgolbghcjijaaDoorDomX
namespace Go.Proofs.YtnjgolbghcjijaaDoor
open Go.RowKit Go.Shelf Go.Sort
set_option linter.unusedVariables false
set_option linter.unusedSimpArgs false
attribute [local go_sem] Oper.semAt_some
namespace Dm
theorem bkH_iff (S B b : Nat) : ∀ n, bkH S B b n = true ↔ ∃ t, t < n ∧ S.testBit (b + t * B) = true
  | 0 => by
    constructor
    · intro h; cases h
    · rintro ⟨t, h, _⟩; omega
  | n + 1 => by
    rw [bkH, Bool.or_eq_true, bkH_iff S B b n]
    constructor
    · rintro (⟨t, h1, h2⟩ | h)
      · exact ⟨t, by omega, h2⟩
      · exact ⟨n, by omega, h⟩
    · rintro ⟨t, h1, h2⟩
      by_cases e : t = n
      · subst e; exact .inr h2
      · exact .inl ⟨t, by omega, h2⟩
theorem fnd_bit {S B b : Nat} (hS : S < 18446744073709551616) (hB : 1 ≤ B) (hb : b < B) : (fndN B (memF S)).testBit b = bkH S B b 64 := by
  rw [Bool.eq_iff_iff, fndN_bit, List.any_eq_true, bkH_iff]
  constructor
  · rintro ⟨x, hx, h⟩
    have h' : x.val % B = b := of_decide_eq_true h
    refine ⟨x.val / B, Nat.lt_of_le_of_lt (Nat.div_le_self _ _) x.isLt, ?_⟩
    rw [← h', Nat.mul_comm, Nat.mod_add_div]
    exact memF_mem.1 hx
  · rintro ⟨t, ht, h⟩
    have hlt : b + t * B < 64 := by
      refine Nat.lt_of_not_le fun hle => ?_
      rw [Nat.testBit_lt_two_pow (Nat.lt_of_lt_of_le hS (Nat.pow_le_pow_right (n := 2) (by omega) hle : 2 ^ 64 ≤ 2 ^ (b + t * B)))] at h
      cases h
    refine ⟨⟨b + t * B, hlt⟩, memF_mem.2 h, decide_eq_true ?_⟩
    show (b + t * B) % B = b
    rw [Nat.add_mul_mod_self_right, Nat.mod_eq_of_lt hb]
theorem fnd_off {S B b : Nat} (hB : 1 ≤ B) (hb : B ≤ b) : (fndN B (memF S)).testBit b = false := by
  rw [fndN_bit]
  refine Bool.eq_false_iff.2 fun h => ?_
  rw [List.any_eq_true] at h
  obtain ⟨x, _, hx⟩ := h
  have h' : x.val % B = b := of_decide_eq_true hx
  have := Nat.mod_lt x.val hB
  omega
theorem fnd_bkS {S B : Nat} (hS : S < 18446744073709551616) (hB : 1 ≤ B) : ∀ n, n ≤ B → memL (fndN B (memF S)) n = bkS S B n
  | 0, _ => rfl
  | n + 1, h => by rw [memL, bkS, fnd_bkS hS hB n (by omega), fnd_bit hS hB (by omega)]
theorem fnd_more {S B : Nat} (hB : 1 ≤ B) : ∀ k, memL (fndN B (memF S)) (B + k) = memL (fndN B (memF S)) B
  | 0 => rfl
  | k + 1 => by rw [← Nat.add_assoc, memL, fnd_off hB (by omega), if_neg (by decide), fnd_more hB k]
theorem fnd_all {S B : Nat} (hS : S < 18446744073709551616) (h1 : 1 ≤ B) (h2 : B ≤ 16) : memL (fndN B (memF S)) 64 = bkS S B B := by
  have := fnd_more (S := S) h1 (64 - B)
  rw [show B + (64 - B) = 64 by omega] at this
  rw [this, fnd_bkS hS h1 B (Nat.le_refl _)]
theorem bucketsP_bad (S : Nat) (B : Int) (w : World) (hB : ¬ (1 ≤ B ∧ B ≤ 16)) (Bl : -9223372036854775808 ≤ B) (Bh : B ≤ 9223372036854775807) :
    Calls Tryd.prog 30 #[.int .u64 S, .int .i64 B] w fun e w' => e = .returned (.tuple #[.slice none 0 0, .int .i64 2]) ∧ Below w.heap.size w w' := by
  have CA := fun W => Lib.hid (areBuckets_any B W Bl Bh)
  rw [decide_eq_false hB] at CA
  clear hB
  go_enter Tryd.func30, Tryd.ntmps30
  go_wp2_with fail
  refine (CA _).out.mono ?_
  rintro r w1 ⟨rfl, rfl⟩
  go_wp2
  go_ret2
  exact ⟨rfl, bel_alloc (Below.refl _ _) _⟩
def BPost (S B : Nat) (w : World) (e : Ending) (w' : World) : Prop := (∃ A c, e = .returned (.tuple #[.slice A (bkS S B B).length c, .int .i64 0]) ∧ RdK .i64 w' A (bkS S B B)) ∧ Below w.heap.size w w'
set_option maxRecDepth 100000 in
set_option maxHeartbeats 2000000 in
theorem bucketsP_in (F : Fence) (hF : ∀ f, F.fn f) (hro : F.round = none) (hwide : ∀ {n g : Nat} {args : Array Value} {w : World} {R : Ending → World → Prop}, Calls Tryd.prog g args w R → CallsIn F n Tryd.prog g args w R) (n : Nat) (hn : 6 ≤ n) (S B : Nat) (hS : S < 18446744073709551616) (B1 : 1 ≤ B) (B2 : B ≤ 16) (w : World) (hT : Tz w) (hw : 0 < w.heap.size) :
    CallsIn F n Tryd.prog 30 #[.int .u64 S, .int .i64 B] w (BPost S B w) := by
  have h1 : 1 ≤ n := by omega
  have hf1 := hF 45
  have hf2 := hF 44
  have hf3 := hF 33
  have hmx : Tryd.prog.follows .mixedOrders = true := by kernel_rfl
  have CA := fun (n : Nat) W => Lib.hid (hwide (n := n) (areBuckets_any (B : Int) W (by omega) (by omega)))
  rw [decide_eq_true (show 1 ≤ (B : Int) ∧ (B : Int) ≤ 16 by omega)] at CA
  refine callsIn_of_wp_marks Tryd.func30 rfl (hF _) ?_ hro
  simp only [Tryd.ntmps30, List.size_toArray, List.length_cons, List.length_nil, Nat.reduceAdd, Nat.reduceSub, Array.replicate_succ, Array.replicate_zero, List.push_toArray, List.append_toArray, List.nil_append, List.cons_append]
  gi_wp2_with (first | (gi_at_call 44; refine (CA _ _).out.mono ?_; rintro e w' ⟨rfl, rfl⟩) | (gi_at_call 45; refine (members_in F (n - 1) hf1 hro S _).mono ?_; rintro e w' ⟨rfl, rfl⟩))
  obtain ⟨W0, hW0⟩ : ∃ W0 : World, W0 = ((w.alloc (Obj.cells #[Value.int IntKind.i64 B] 3)).alloc (Obj.cells #[Value.int IntKind.u64 0] 25)).alloc (Obj.cells #[Value.int IntKind.u64 S] 25) := ⟨_, rfl⟩
  have hsz : W0.heap.size = w.heap.size + 3 := by rw [hW0]; simp
  have bB : Boxed W0 w.heap.size 3 (.int .i64 B) := by rw [hW0]; exact ((Boxed.new w _ _).alloc _).alloc _
  have bO : Boxed W0 (w.heap.size + 1) 25 (.int .u64 0) := by
    rw [hW0]
    have := (Boxed.new (w.alloc (Obj.cells #[Value.int IntKind.i64 B] 3)) 25 (.int .u64 0)).alloc (Obj.cells #[Value.int IntKind.u64 S] 25)
    rwa [World.size_alloc] at this
  have bN : Boxed W0 (w.heap.size + 2) 25 (.int .u64 S) := by
    rw [hW0]
    have := Boxed.new ((w.alloc (Obj.cells #[Value.int IntKind.i64 B] 3)).alloc (Obj.cells #[Value.int IntKind.u64 0] 25)) 25 (.int .u64 S)
    rwa [World.size_alloc, World.size_alloc] at this
  have hB0 : Below w.heap.size w W0 := by rw [hW0]; exact bel_alloc (bel_alloc (bel_alloc (Below.refl _ _) _) _) _
  rw [← hW0]
  clear hW0
  refine wpIn_rangeFunc_ownF hro h1 (gf := 50) (lb := #[.pointer (some ⟨w.heap.size + 2, 0, none⟩)]) rfl (hF _) (enters_of Tryd.func50 (by kernel_rfl) rfl)
    (members_stops F hF hro (fun h => hwide h) (n - 1) (by omega) (w.heap.size + 2) w.heap.size S hS hw _ (by omega) (by omega) (hT.below hB0) bN.cell) belowK_t (belowK_b (by omega)) (Below.refl _ _) (fun _ => rfl)
    (fun pre W => (Boxed W (w.heap.size + 1) 25 (.int .u64 (fndN B pre : Nat)) ∧ Boxed W w.heap.size 3 (.int .i64 B)) ∧ Below w.heap.size w W)
    (fun _ _ _ => False)
    (OwnFrom.and (OwnFrom.and (Own.from (boxed_own _ _ (fun pre => .int .u64 (fndN B pre : Nat))) _) (Own.from (boxed_own _ _ (fun _ => .int .i64 B)) _)) (ownFrom_below (Nat.le_refl _) (by omega)))
    (fun _ _ _ _ _ hs _ _ => hs)
    ⟨⟨bO, bB⟩, hB0⟩
    (fun x => { tmps := #[.int .u64 S, .int .i64 B, undef, .pointer (some ⟨w.heap.size, 0, none⟩), .slice none 0 0, .int .i64 0, .pointer (some ⟨w.heap.size + 1, 0, none⟩), .int .i64 (x.val : Int), .int .i64 B, .bool true, .bool false, .int .u64 S, .func (.func 50) #[] #[.pointer (some ⟨w.heap.size + 2, 0, none⟩)], .int .i64 (x.val : Int), undef, undef, undef, undef, undef, undef, undef, undef], defers := [] }) ?assign ?body ?done ?stop
  case assign =>
    intro l x W K hK
    gi_wp2
    exact hK
  case body =>
    rintro l pre x W ⟨⟨hv, hb⟩, hB⟩ hlt
    have hc := hv.cell
    have hcb := hb.cell
    have hfr := hv.frozen
    have hx0 := x.isLt
    have hfl := fndN_lt B1 B2 pre
    have hmod := Nat.mod_lt x.val B1
    have HI := Lib.hid ((congrArg (bits .or .u64 (fndN B pre : Nat)) (wrap_pow (p := x.val % B) (by omega))).trans <| (or_nat hfl (p64 (n := x.val % B) (by omega))).trans (congrArg Int.ofNat (fndN_snoc B x pre).symm))
    generalize hz : fndN B (pre ++ [x]) = z at HI
    have HZ := Lib.hid hz; clear hz
    generalize fndN B pre = y at *
    generalize x.val = q at *
    have q1 : (q : Int) < 64 := by omega
    have b1 : (B : Int) ≤ 16 := by omega
    have b2 : 1 ≤ (B : Int) := by omega
    have q2 : 0 ≤ (q : Int) % (B : Int) := Int.emod_nonneg _ (by omega)
    have q3 : (q : Int) % (B : Int) < B := Int.emod_lt_of_pos _ (by omega)
    gi_wp2
    gi_region_with_o (fail)
    all_goals gi_wp2
    all_goals (try go_bits)
    all_goals
      rw [HI.out]
      have e : Boxed (W.setCell ⟨w.heap.size + 1, 0, none⟩ (.int .u64 (Int.ofNat z))) (w.heap.size + 1) 25 (.int .u64 (fndN B (pre ++ [x]) : Nat)) := by rw [HZ.out]; exact hv.set _
      have hk : Below w.heap.size W (W.setCell ⟨w.heap.size + 1, 0, none⟩ (.int .u64 (Int.ofNat z))) := (Below.refl _ W).setCell (p := ⟨w.heap.size + 1, 0, none⟩) (Nat.le_succ _) _
      exact ⟨(KeepsOthers.setCell _ _ _).trans (KeepsOthers.drew _), hk.drew, ⟨⟨e, hb.other (by omega) _⟩, (hB.trans hk).drew⟩⟩
  case done =>
    rintro D ys W hD rfl ⟨⟨hv, hb⟩, hB⟩ hK
    have hc := hv.cell
    have hfl := fndN_lt B1 B2 (memF S)
    have hDW : D < W.heap.size := (Array.getElem?_eq_some_iff.1 hK).1
    have CM := Lib.hid (hwide (n := n - 1) (membersP_any (fndN B (memF S)) hfl W (hT.below hB) (Nat.lt_of_lt_of_le hw hB.size)))
    have HL := Lib.hid (fnd_all hS B1 B2)
    generalize fndN B (memF S) = f at *
    gi_wp2_with (gi_at_call 33; refine CM.out.mono ?_; rintro e w1 ⟨⟨v, rfl, ow⟩, b1⟩)
    have hK1 := (b1.block D hDW).trans hK
    rw [HL.out] at ow
    obtain ⟨hl, A, c, rfl, rd⟩ := row_rd (ownsRow_putObj ow (.deferred none) hK1 rfl)
    refine ⟨by simp, .inl ⟨_, _, rfl, run_takeDeferred hK1, ?_⟩⟩
    exact ⟨_, results_tmp2 rfl _ _ _, ⟨A, c, rfl, rd⟩, (hB.trans (b1.mono hB.size)).trans (belowK_b (w := w) (Nat.le_refl _) w1 D _ _ (by omega) hK1 rfl rfl)⟩
  case stop =>
    rintro D c pre W _ _ h _
    exact h.elim
theorem bucketsP_any (S B : Nat) (hS : S < 18446744073709551616) (B1 : 1 ≤ B) (B2 : B ≤ 16) (w : World) (hT : Tz w) (hw : 0 < w.heap.size) :
    Calls Tryd.prog 30 #[.int .u64 S, .int .i64 B] w (BPost S B w) :=
  callsIn_wide.1 (bucketsP_in Fence.wide (fun _ => trivial) rfl (fun h => callsIn_wide.2 h) 6 (Nat.le_refl _) S B hS B1 B2 w hT hw)
end Dm
end Go.Proofs.YtnjgolbghcjijaaDoor
