/- do of leapfroglaw07: a call on the merge and on the reference's. Conditions: the bounds of each number's kind. -/
import Derived.Test.YtbndgbjenmknmaaDoorMgB
import Derived.Test.YtbndgbjenmknmaaDoorMgA
namespace Go.Proofs.YtbndgbjenmknmaaDoor
open Go.RowKit Go.Sort
set_option linter.unusedVariables false
set_option linter.unusedSimpArgs false
namespace Wk
open Hq
open Om (bel_alloc Pr bel_trans)
open Mg (popT Dd BdD1 MrAt Chg)
/-- the blocks that stay: those below B, the reference's merge, and from lo to hi -/
def Xb (B br lo hi : Nat) : Nat → Prop := fun i => i < B ∨ i = br ∨ (lo ≤ i ∧ i < hi)
/-- both merges are M -/
structure Du (B : Nat) (w : World) (b br : Nat) (M : Mg.Mg) : Prop where
  sm : Sm (Xb B br 0 0) w b M
  mr : MrAt w br M
  le : B ≤ br
theorem Du.box {B b br : Nat} {w w' : World} {M : Mg.Mg} (h : Du B w b br M) (hb : Below w.heap.size w w') : Sm (Xb B br w.heap.size w'.heap.size) w' b M ∧ MrAt w' br M :=
  ⟨h.sm.more hb fun i hi => by
    rcases hi with h1 | h1 | h1
    · exact .inl (.inl h1)
    · exact .inl (.inr (.inl h1))
    · exact .inr h1, h.mr.below hb⟩
theorem Du.shut {B b br lo hi : Nat} {w : World} {M : Mg.Mg} (h : Sm (Xb B br lo hi) w b M) (hm : MrAt w br M) (hle : B ≤ br) : Du B w b br M :=
  ⟨h.less fun i hi => by
    rcases hi with h1 | h1 | h1
    · exact .inl h1
    · exact .inr (.inl h1)
    · omega, hm, hle⟩
def DoP (B b br : Nat) (w : World) (e : Ending) (w' : World) : Prop := e = .returned (.bool true) ∧ ∃ N, Du B w' b br N ∧ Below B w w'
theorem xb_ref {B br lo hi : Nat} : Xb B br lo hi br := .inr (.inl rfl)
theorem pops_fun {M N N' : Mg.Mg} {r r' : Value} (hi : M.Inv) (h : M.pops r N) (h' : M.pops r' N') : r' = r ∧ N' = N := by
  rcases h with ⟨h1, rfl, rfl⟩ | ⟨h1, h2, rfl, rfl⟩ | ⟨h1, v, hv, rfl, rfl⟩
  · exact pops_state h1 _ _ h'
  · exact pops_none h1 h2 _ _ h'
  · exact pops_least h1 v hv.1 hv.2.1 (fun u hu hh hne => by
      have h3 := hv.2.2 u hu hh
      have h4 : (M.p v).1 ≠ (M.p u).1 := fun e => hne (hi.ne u v hu hv.1 hh hv.2.1 e.symm)
      omega) _ _ h'
set_option maxRecDepth 100000 in
set_option maxHeartbeats 4000000 in
theorem do_2 (B b br : Nat) (M : Mg.Mg) (w : World) (x : Dd) (h : Du B w b br M) (bx : BdD1 x) (c : x.d % 5 = 2) :
    Calls Tryd.prog 11 #[.pointer (some ⟨b, 0, none⟩), .pointer (some ⟨br, 0, none⟩), .agg #[.int .u8 x.d, .int .i64 x.l, .int .u64 x.k, .int .u64 x.v]] w (DoP B b br w) := by
  have u2 : (x.d % 5 == 2) = true := by simp [c]
  clear c
  have d1 := bx.d0
  have d2 := bx.d1
  have l0 := bx.l0
  have l1 := bx.l1
  have hle := h.le
  have bB : Below w.heap.size w (w.alloc (.cells #[.int .u8 x.d, .int .i64 x.l, .int .u64 x.k, .int .u64 x.v] 31)) := bel_alloc (Below.refl _ _) _
  have hlt := h.mr.lt
  obtain ⟨sm, mr⟩ := h.box bB
  have BW := Lib.hid (bB.mono (show B ≤ w.heap.size by omega))
  have c1 : (w.alloc (.cells #[.int .u8 x.d, .int .i64 x.l, .int .u64 x.k, .int .u64 x.v] 31)).cell? ⟨w.heap.size, 1, none⟩ = some (.int .i64 x.l) := by simp
  have hsz : (w.alloc (.cells #[.int .u8 x.d, .int .i64 x.l, .int .u64 x.k, .int .u64 x.v] 31)).heap.size = w.heap.size + 1 := by simp
  rw [hsz] at sm
  have SM := Lib.hid sm
  have MR := Lib.hid mr
  have xdb : Xb B br w.heap.size (w.heap.size + 1) w.heap.size := .inr (.inr ⟨Nat.le_refl _, by omega⟩)
  clear h bx sm mr bB
  go_enter Tryd.func11, Tryd.ntmps11
  go_wp2_with fail
  generalize w.alloc (.cells #[.int .u8 x.d, .int .i64 x.l, .int .u64 x.k, .int .u64 x.v] 31) = W1 at *
  have c1' : W1.drew.cell? ⟨w.heap.size, 1, none⟩ = some (.int .i64 x.l) := c1
  go_region_law ((go_simp; first
    | (go_at_call 20; refine (endE SM.out (by exact ⟨rfl, rfl, rfl, Nat.le_refl _, fun _ _ => rfl⟩) x.l _ _ rfl rfl l0 l1).mono ?_; rintro r V2 ⟨rfl, sm2, kx⟩; have SM2 := Lib.hid sm2; have MR2 := Lib.hid (MR.out.keep (kx.block br xb_ref)); have B2 := Lib.hid (BW.out.trans (kx.below fun i hi => .inl hi)); have c2 := kx.cell xdb c1; clear sm2 kx c1 c1')
    | (go_at_call 26; refine (Mg.endR M br x.l _ MR2.out l0 l1).mono ?_; rintro r V3 ⟨rfl, mr3, cg⟩; have MR3 := Lib.hid mr3; have SM3 := Lib.hid (SM2.out.other xb_ref cg); have B3 := Lib.hid (B2.out.trans (cg.below hle (by have := B2.out.size; omega))); clear mr3 cg)))
  all_goals go_wp2
  all_goals go_ret
  all_goals exact ⟨rfl, _, Du.shut SM3.out MR3.out hle, B3.out⟩
set_option maxRecDepth 100000 in
set_option maxHeartbeats 4000000 in
theorem do_4 (B b br : Nat) (M : Mg.Mg) (w : World) (x : Dd) (h : Du B w b br M) (bx : BdD1 x) (c : x.d % 5 = 4) :
    Calls Tryd.prog 11 #[.pointer (some ⟨b, 0, none⟩), .pointer (some ⟨br, 0, none⟩), .agg #[.int .u8 x.d, .int .i64 x.l, .int .u64 x.k, .int .u64 x.v]] w (DoP B b br w) := by
  have u2 : (x.d % 5 == 2) = false := by simp [c]
  have u3 : (x.d % 5 == 3) = false := by simp [c]
  have u4 : (x.d % 5 == 4) = true := by simp [c]
  clear c
  have d1 := bx.d0
  have d2 := bx.d1
  have l0 := bx.l0
  have l1 := bx.l1
  have hle := h.le
  have bB : Below w.heap.size w (w.alloc (.cells #[.int .u8 x.d, .int .i64 x.l, .int .u64 x.k, .int .u64 x.v] 31)) := bel_alloc (Below.refl _ _) _
  have hlt := h.mr.lt
  obtain ⟨sm, mr⟩ := h.box bB
  have BW := Lib.hid (bB.mono (show B ≤ w.heap.size by omega))
  have c1 : (w.alloc (.cells #[.int .u8 x.d, .int .i64 x.l, .int .u64 x.k, .int .u64 x.v] 31)).cell? ⟨w.heap.size, 2, none⟩ = some (.int .u64 x.k) := by simp
  have hsz : (w.alloc (.cells #[.int .u8 x.d, .int .i64 x.l, .int .u64 x.k, .int .u64 x.v] 31)).heap.size = w.heap.size + 1 := by simp
  rw [hsz] at sm
  have SM := Lib.hid sm
  have MR := Lib.hid mr
  have xdb : Xb B br w.heap.size (w.heap.size + 1) w.heap.size := .inr (.inr ⟨Nat.le_refl _, by omega⟩)
  clear h bx sm mr bB
  go_enter Tryd.func11, Tryd.ntmps11
  go_wp2_with fail
  refine (skipE SM.out (Below.refl _ _) x.k _ rfl).mono ?_
  rintro r V2 ⟨rfl, sm2, kx⟩
  have SM2 := Lib.hid sm2
  have MR2 := Lib.hid (MR.out.keep (kx.block br xb_ref))
  have B2 := Lib.hid (BW.out.trans (kx.below fun i hi => .inl hi))
  have c2 := kx.cell xdb c1
  clear sm2 kx c1
  go_wp2_with fail
  refine (Mg.skipR M br x.k _ MR2.out).mono ?_
  rintro r V3 ⟨rfl, mr3, cg⟩
  have MR3 := Lib.hid mr3
  have SM3 := Lib.hid (SM2.out.other xb_ref cg)
  have B3 := Lib.hid (B2.out.trans (cg.below hle (by have := B2.out.size; omega)))
  clear mr3 cg
  go_wp2
  go_ret
  exact ⟨rfl, _, Du.shut SM3.out MR3.out hle, B3.out⟩
set_option maxRecDepth 100000 in
set_option maxHeartbeats 4000000 in
theorem do_3 (B b br : Nat) (M : Mg.Mg) (w : World) (x : Dd) (h : Du B w b br M) (bx : BdD1 x) (c : x.d % 5 = 3) :
    Calls Tryd.prog 11 #[.pointer (some ⟨b, 0, none⟩), .pointer (some ⟨br, 0, none⟩), .agg #[.int .u8 x.d, .int .i64 x.l, .int .u64 x.k, .int .u64 x.v]] w (DoP B b br w) := by
  have u2 : (x.d % 5 == 2) = false := by simp [c]
  have u3 : (x.d % 5 == 3) = true := by simp [c]
  clear c
  have d1 := bx.d0
  have d2 := bx.d1
  have l0 := bx.l0
  have l1 := bx.l1
  have hle := h.le
  have bB : Below w.heap.size w (w.alloc (.cells #[.int .u8 x.d, .int .i64 x.l, .int .u64 x.k, .int .u64 x.v] 31)) := bel_alloc (Below.refl _ _) _
  have hlt := h.mr.lt
  obtain ⟨sm, mr⟩ := h.box bB
  have BW := Lib.hid (bB.mono (show B ≤ w.heap.size by omega))
  have c1 : (w.alloc (.cells #[.int .u8 x.d, .int .i64 x.l, .int .u64 x.k, .int .u64 x.v] 31)).cell? ⟨w.heap.size, 1, none⟩ = some (.int .i64 x.l) := by simp
  have hsz : (w.alloc (.cells #[.int .u8 x.d, .int .i64 x.l, .int .u64 x.k, .int .u64 x.v] 31)).heap.size = w.heap.size + 1 := by simp
  rw [hsz] at sm
  have SM := Lib.hid sm
  have MR := Lib.hid mr
  have xdb : Xb B br w.heap.size (w.heap.size + 1) w.heap.size := .inr (.inr ⟨Nat.le_refl _, by omega⟩)
  clear h bx sm mr bB
  go_enter Tryd.func11, Tryd.ntmps11
  go_wp2_with fail
  refine (popS SM.out).mono ?_
  rintro r V2 ⟨r, N, rfl, hp, sm2, kx⟩
  have hN := sm2.inv
  have SM2 := Lib.hid sm2
  have MR2 := Lib.hid (MR.out.keep (kx.block br xb_ref))
  have B2 := Lib.hid (BW.out.trans (kx.below fun i hi => .inl hi))
  have HP := Lib.hid hp
  have hi := SM.out.inv
  have hu := SM.out.u
  obtain ⟨y, l, is, e, rfl⟩ : ∃ (y : Pr) (l : Int) (is : Bool) (e : Int), r = popT y l is e := by
    rcases hp with ⟨_, h1, _⟩ | ⟨_, _, h1, _⟩ | ⟨_, v, _, h1, _⟩ <;> exact ⟨_, _, _, _, h1⟩
  clear sm2 kx c1 hp
  unfold popT
  go_wp2_with fail
  have y0 : (V2.alloc (.cells #[.int .u64 y.1, .int .u64 y.2] 39)).cell? ⟨V2.heap.size, 0, none⟩ = some (.int .u64 y.1) := by simp
  have y1 : (V2.alloc (.cells #[.int .u64 y.1, .int .u64 y.2] 39)).cell? ⟨V2.heap.size, 1, none⟩ = some (.int .u64 y.2) := by simp
  have bq : Below V2.heap.size V2 (V2.alloc (.cells #[.int .u64 y.1, .int .u64 y.2] 39)) := bel_alloc (Below.refl _ _) _
  have hbr := MR2.out.lt
  have MR2 := Lib.hid (MR2.out.below bq)
  have SM2 := Lib.hid (SM2.out.below bq)
  have B2 := Lib.hid (B2.out.trans (bq.mono (show B ≤ V2.heap.size by omega)))
  have hs2 : (V2.alloc (.cells #[.int .u64 y.1, .int .u64 y.2] 39)).heap.size = V2.heap.size + 1 := by simp
  clear bq
  generalize V2.alloc (.cells #[.int .u64 y.1, .int .u64 y.2] 39) = W2 at *
  refine (Mg.popR M br W2 MR2.out hu).mono ?_
  rintro r V3 ⟨r', N', rfl, hp', mr3, cg⟩
  obtain ⟨rfl, rfl⟩ := pops_fun hi HP.out hp'
  have MR3 := Lib.hid mr3
  have SM3 := Lib.hid (SM2.out.other xb_ref cg)
  have B3 := Lib.hid (B2.out.trans (cg.below hle (by have := B2.out.size; omega)))
  have z0 := (World.cell?_of_block (a := ⟨V2.heap.size, 0, none⟩) (cg.block V2.heap.size (by omega) (fun e => by injection e with e; omega))).trans y0
  have z1 := (World.cell?_of_block (a := ⟨V2.heap.size, 1, none⟩) (cg.block V2.heap.size (by omega) (fun e => by injection e with e; omega))).trans y1
  have hz := cg.size
  have hv2 : V2.heap.size < V3.heap.size := by omega
  have g0 := fun o => (World.cell?_alloc_lt V3 o ⟨V2.heap.size, 0, none⟩ hv2).trans z0
  have g1 := fun o => (World.cell?_alloc_lt V3 o ⟨V2.heap.size, 1, none⟩ hv2).trans z1
  clear mr3 cg y0 y1
  unfold popT
  go_wp2
  go_ret
  exact ⟨by simp, _, Du.shut (SM3.out.below (bel_alloc (Below.refl _ _) _)) (MR3.out.below (bel_alloc (Below.refl _ _) _)) hle, B3.out.trans ((bel_alloc (Below.refl _ V3) _).mono (by omega))⟩
end Wk
end Go.Proofs.YtbndgbjenmknmaaDoor
