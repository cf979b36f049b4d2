/- do of leapfroglaw07, Offer: a call on the merge and on the reference's. Conditions: the bounds of each number's kind. -/
import Derived.Test.YtbndgbjenmknmaaDoorMgD
namespace Go.Proofs.YtbndgbjenmknmaaDoor
open Go.RowKit Go.Sort
set_option linter.unusedVariables false
set_option linter.unusedSimpArgs false
namespace Wk
open Hq
open Om (bel_alloc Pr bel_trans)
open Mg (popT Dd BdD1 MrAt Chg)
set_option maxRecDepth 100000 in
set_option maxHeartbeats 4000000 in
theorem do_5 (B b br : Nat) (M : Mg.Mg) (w : World) (x : Dd) (h : Du B w b br M) (bx : BdD1 x) (c : x.d % 5 < 2) :
    Calls Tryd.prog 11 #[.pointer (some ⟨b, 0, none⟩), .pointer (some ⟨br, 0, none⟩), .agg #[.int .u8 x.d, .int .i64 x.l, .int .u64 x.k, .int .u64 x.v]] w (DoP B b br w) := by
  have u2 : (x.d % 5 == 2) = false := by simp; omega
  have u3 : (x.d % 5 == 3) = false := by simp; omega
  have u4 : (x.d % 5 == 4) = false := by simp; omega
  clear c
  have d1 := bx.d0
  have d2 := bx.d1
  have l0 := bx.l0
  have l1 := bx.l1
  have k0 := bx.k0
  have k1 := bx.k1
  have hle := h.le
  have bB : Below w.heap.size w ((w.alloc (.cells #[.int .u8 x.d, .int .i64 x.l, .int .u64 x.k, .int .u64 x.v] 31)).alloc (.cells #[.int .u64 x.k, .int .u64 x.v] 39)) := bel_alloc (bel_alloc (Below.refl _ _) _) _
  have hlt := h.mr.lt
  obtain ⟨sm, mr⟩ := h.box bB
  have BW := Lib.hid (bB.mono (show B ≤ w.heap.size by omega))
  have c1 : ((w.alloc (.cells #[.int .u8 x.d, .int .i64 x.l, .int .u64 x.k, .int .u64 x.v] 31)).alloc (.cells #[.int .u64 x.k, .int .u64 x.v] 39)).cell? ⟨w.heap.size, 1, none⟩ = some (.int .i64 x.l) := by simp
  have p0 : ((w.alloc (.cells #[.int .u8 x.d, .int .i64 x.l, .int .u64 x.k, .int .u64 x.v] 31)).alloc (.cells #[.int .u64 x.k, .int .u64 x.v] 39)).cell? ⟨w.heap.size + 1, 0, none⟩ = some (.int .u64 x.k) := by simp
  have p1 : ((w.alloc (.cells #[.int .u8 x.d, .int .i64 x.l, .int .u64 x.k, .int .u64 x.v] 31)).alloc (.cells #[.int .u64 x.k, .int .u64 x.v] 39)).cell? ⟨w.heap.size + 1, 1, none⟩ = some (.int .u64 x.v) := by simp
  have hsz : ((w.alloc (.cells #[.int .u8 x.d, .int .i64 x.l, .int .u64 x.k, .int .u64 x.v] 31)).alloc (.cells #[.int .u64 x.k, .int .u64 x.v] 39)).heap.size = w.heap.size + 2 := by simp
  rw [hsz] at sm
  have SM := Lib.hid sm
  have MR := Lib.hid mr
  have xdb : Xb B br w.heap.size (w.heap.size + 2) w.heap.size := .inr (.inr ⟨Nat.le_refl _, by omega⟩)
  have xpb : Xb B br w.heap.size (w.heap.size + 2) (w.heap.size + 1) := .inr (.inr ⟨by omega, by omega⟩)
  clear h bx sm mr bB
  go_enter Tryd.func11, Tryd.ntmps11
  go_wp2_with fail
  generalize ((w.alloc (.cells #[.int .u8 x.d, .int .i64 x.l, .int .u64 x.k, .int .u64 x.v] 31)).alloc (.cells #[.int .u64 x.k, .int .u64 x.v] 39)) = W2 at *
  have c1' : W2.drew.cell? ⟨w.heap.size, 1, none⟩ = some (.int .i64 x.l) := c1
  have p0' : W2.drew.cell? ⟨w.heap.size + 1, 0, none⟩ = some (.int .u64 x.k) := p0
  have p1' : W2.drew.cell? ⟨w.heap.size + 1, 1, none⟩ = some (.int .u64 x.v) := p1
  go_region_law ((go_simp; first
    | (go_at_call 19; refine (offerE SM.out (by exact ⟨rfl, rfl, rfl, Nat.le_refl _, fun _ _ => rfl⟩) x.l (x.k, x.v) _ _ rfl rfl l0 l1 k0 k1).mono ?_; rintro r V2 ⟨rfl, sm2, kx⟩; have SM2 := Lib.hid sm2; have MR2 := Lib.hid (MR.out.keep (kx.block br xb_ref)); have B2 := Lib.hid (BW.out.trans (kx.below fun i hi => .inl hi)); have c2 := kx.cell xdb c1; have q0 := kx.cell xpb p0; have q1 := kx.cell xpb p1; clear sm2 kx c1 c1' p0 p0' p1 p1')
    | (go_at_call 29; refine (Mg.offerR M br x.l (x.k, x.v) _ MR2.out l0 l1).mono ?_; rintro r V3 ⟨rfl, mr3, cg⟩; have MR3 := Lib.hid mr3; have SM3 := Lib.hid (SM2.out.other xb_ref cg); have B3 := Lib.hid (B2.out.trans (cg.below hle (by have := B2.out.size; omega))); clear mr3 cg)))
  all_goals go_wp2
  all_goals go_ret
  all_goals exact ⟨rfl, _, Du.shut SM3.out MR3.out hle, B3.out⟩
theorem do_any (B b br : Nat) (M : Mg.Mg) (w : World) (x : Dd) (h : Du B w b br M) (bx : BdD1 x) :
    Calls Tryd.prog 11 #[.pointer (some ⟨b, 0, none⟩), .pointer (some ⟨br, 0, none⟩), .agg #[.int .u8 x.d, .int .i64 x.l, .int .u64 x.k, .int .u64 x.v]] w (DoP B b br w) := by
  have h0 := bx.d0
  by_cases c2 : x.d % 5 = 2
  · exact do_2 B b br M w x h bx c2
  by_cases c3 : x.d % 5 = 3
  · exact do_3 B b br M w x h bx c3
  by_cases c4 : x.d % 5 = 4
  · exact do_4 B b br M w x h bx c4
  exact do_5 B b br M w x h bx (by omega)
end Wk
end Go.Proofs.YtbndgbjenmknmaaDoor
