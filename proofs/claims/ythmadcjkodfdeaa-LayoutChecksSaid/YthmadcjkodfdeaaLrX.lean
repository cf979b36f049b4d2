/- Laws for single operations of a region in any order (LayoutChecks); '==' of two equal places of a layout; a configuration loaded in a quiet region. Conditions: those of each lemma. -/
import Derived.Test.YthmadcjkodfdeaaLrW
import Derived.Test.YthmadcjkodfdeaaLrF
import Derived.Test.YthmadcjkodfdeaaLyK
import Derived.Test.YthmadcjkodfdeaaLyCo
import Derived.Deep.RegionHeld3
import Derived.BigQuiet
namespace Go.Proofs.Ythmadcjkodfdeaa
open Go.RowKit Go.Sort
set_option linter.unusedVariables false
set_option linter.unusedSimpArgs false
namespace Ly
open Dm (RdK BdU dmB dmE dmN bel_alloc bel_trans cell_lt)
set_option maxRecDepth 100000 in
set_option maxHeartbeats 2000000 in
theorem eqLay (p0 p1 p2 p3 p4 p5 p6 p7 p8 p9 : Int) (w : World) : (Op.equalIn 10000 41 (.agg #[.int .i64 p0, .int .i64 p1, .int .i64 p2, .int .i64 p3, .int .i64 p4, .int .i64 p5, .int .i64 p6, .int .i64 p7, .int .i64 p8, .int .i64 p9]) (.agg #[.int .i64 p0, .int .i64 p1, .int .i64 p2, .int .i64 p3, .int .i64 p4, .int .i64 p5, .int .i64 p6, .int .i64 p7, .int .i64 p8, .int .i64 p9])).run Try.prog w = .ok true w := by
  have u6 := Try.underlying3
  have a6 := Try.isAgg3
  have z6 := Try.sizeOf3
  have hS : Try.prog.underlying 41 = some (.struct (Try.prog.fieldsOf 41)) := by kernel_rfl
  have hp : Try.prog.stoodInHeld 41 = false := by kernel_rfl
  rw [show true = (decide (p0 = p0) && (decide (p1 = p1) && (decide (p2 = p2) && (decide (p3 = p3) && (decide (p4 = p4) && (decide (p5 = p5) && (decide (p6 = p6) && (decide (p7 = p7) && (decide (p8 = p8) && (decide (p9 = p9) && true)))))))))) by simp, show (10000 : Nat) = 9999 + 1 from rfl, run_equalIn_agg w 9999 41 _ _ hS hp]
  simp only [Program.fieldsOf, Try.underlying41]
  refine eqF_step w (by decide) (a := .int .i64 p0) (b := .int .i64 p0) (by go_simp) (by go_simp) (by go_simp; all_goals (first | done | exact bdI _ _ | simp)) ?_
  refine eqF_step w (by decide) (a := .int .i64 p1) (b := .int .i64 p1) (by go_simp) (by go_simp) (by go_simp; all_goals (first | done | exact bdI _ _ | simp)) ?_
  refine eqF_step w (by decide) (a := .int .i64 p2) (b := .int .i64 p2) (by go_simp) (by go_simp) (by go_simp; all_goals (first | done | exact bdI _ _ | simp)) ?_
  refine eqF_step w (by decide) (a := .int .i64 p3) (b := .int .i64 p3) (by go_simp) (by go_simp) (by go_simp; all_goals (first | done | exact bdI _ _ | simp)) ?_
  refine eqF_step w (by decide) (a := .int .i64 p4) (b := .int .i64 p4) (by go_simp) (by go_simp) (by go_simp; all_goals (first | done | exact bdI _ _ | simp)) ?_
  refine eqF_step w (by decide) (a := .int .i64 p5) (b := .int .i64 p5) (by go_simp) (by go_simp) (by go_simp; all_goals (first | done | exact bdI _ _ | simp)) ?_
  refine eqF_step w (by decide) (a := .int .i64 p6) (b := .int .i64 p6) (by go_simp) (by go_simp) (by go_simp; all_goals (first | done | exact bdI _ _ | simp)) ?_
  refine eqF_step w (by decide) (a := .int .i64 p7) (b := .int .i64 p7) (by go_simp) (by go_simp) (by go_simp; all_goals (first | done | exact bdI _ _ | simp)) ?_
  refine eqF_step w (by decide) (a := .int .i64 p8) (b := .int .i64 p8) (by go_simp) (by go_simp) (by go_simp; all_goals (first | done | exact bdI _ _ | simp)) ?_
  refine eqF_step w (by decide) (a := .int .i64 p9) (b := .int .i64 p9) (by go_simp) (by go_simp) (by go_simp; all_goals (first | done | exact bdI _ _ | simp)) ?_
  simp [Op.eqFields]
theorem guardLay : Try.prog.eqGuardType Try.prog.depth 41 = false := by kernel_rfl
theorem cfg_range {w : World} {b : Nat} {f : Cf} (hf : CfB w b f) : w.rangeAt b 0 [.int .i64 f.th, .int .i64 f.sl, .int .u8 f.en, .int .i64 f.bu, .int .u8 f.k, .int .i64 f.n, .slice f.A f.m f.c, .int .i64 (f.t 0), .int .i64 (f.t 1), .int .i64 (f.t 2), .int .i64 (f.t 3), .int .i64 (f.t 4), .int .i64 (f.t 5), .int .i64 f.lo, .int .i64 f.tr, .int .i64 f.ba] := fun j v hj => by
  rw [Nat.zero_add]
  match j, hj with
  | 0, hj => cases hj; exact hf.c0
  | 1, hj => cases hj; exact hf.c1
  | 2, hj => cases hj; exact hf.c2
  | 3, hj => cases hj; exact hf.c3
  | 4, hj => cases hj; exact hf.c4
  | 5, hj => cases hj; exact hf.c5
  | 6, hj => cases hj; exact hf.c6
  | 7, hj => cases hj; exact hf.c7
  | 8, hj => cases hj; exact hf.c8
  | 9, hj => cases hj; exact hf.c9
  | 10, hj => cases hj; exact hf.c10
  | 11, hj => cases hj; exact hf.c11
  | 12, hj => cases hj; exact hf.c12
  | 13, hj => cases hj; exact hf.c13
  | 14, hj => cases hj; exact hf.c14
  | 15, hj => cases hj; exact hf.c15
  | j + 16, hj => simp at hj
theorem sz_lay10 : (Try.prog.info? 41).map (·.size) = some 10 := by kernel_rfl
theorem lay_range {w : World} {b : Nat} {g : Ge} (h : RAt w b g) : w.rangeAt b 16 [.int .i64 (plN g 0 : Nat), .int .i64 (plN g 1 : Nat), .int .i64 (plN g 2 : Nat), .int .i64 (plN g 3 : Nat), .int .i64 (plN g 4 : Nat), .int .i64 (plN g 5 : Nat), .int .i64 (plN g 6 : Nat), .int .i64 (plN g 7 : Nat), .int .i64 (plN g 8 : Nat), .int .i64 (plN g 9 : Nat)] := fun j v hj => by
  match j, hj with
  | 0, hj => cases hj; exact h.pl 0 (by omega)
  | 1, hj => cases hj; exact h.pl 1 (by omega)
  | 2, hj => cases hj; exact h.pl 2 (by omega)
  | 3, hj => cases hj; exact h.pl 3 (by omega)
  | 4, hj => cases hj; exact h.pl 4 (by omega)
  | 5, hj => cases hj; exact h.pl 5 (by omega)
  | 6, hj => cases hj; exact h.pl 6 (by omega)
  | 7, hj => cases hj; exact h.pl 7 (by omega)
  | 8, hj => cases hj; exact h.pl 8 (by omega)
  | 9, hj => cases hj; exact h.pl 9 (by omega)
  | j + 10, hj => simp at hj
theorem ldQ_cfg {o : Oper} {a : Act} {Cl : World → Prop} {K : Act → Prop} (p : Operand) (ho : o.op = .load 27 p) (b : Nat) (f : Cf) (hf : ∀ w, Cl w → CfB w b f) (hp : a.eval p = .pointer (some ⟨b, 0, none⟩))
    (h : K (a.put o.dst (.agg #[.int .i64 f.th, .int .i64 f.sl, .int .u8 f.en, .int .i64 f.bu, .int .u8 f.k, .int .i64 f.n, .slice f.A f.m f.c, .int .i64 (f.t 0), .int .i64 (f.t 1), .int .i64 (f.t 2), .int .i64 (f.t 3), .int .i64 (f.t 4), .int .i64 (f.t 5), .int .i64 f.lo, .int .i64 f.tr, .int .i64 f.ba]))) : o.quiet Try.prog a Cl K :=
  ⟨_, fun w hw => by
    unfold Oper.quietAt execOp
    simp only [ho, hp, Instr.loadAt, Instr.sureAddr, Sem.run_bind, Sem.run_pure, Result.andThen_ok, run_loadVar_mid w b 0 27 [.int .i64 f.th, .int .i64 f.sl, .int .u8 f.en, .int .i64 f.bu, .int .u8 f.k, .int .i64 f.n, .slice f.A f.m f.c, .int .i64 (f.t 0), .int .i64 (f.t 1), .int .i64 (f.t 2), .int .i64 (f.t 3), .int .i64 (f.t 4), .int .i64 (f.t 5), .int .i64 f.lo, .int .i64 f.tr, .int .i64 f.ba] _ (cfg_range (hf w hw)) Try.underlying27 rfl sz_cfg16]
    exact ⟨rfl, rfl⟩, h⟩
section
variable {ops : Array Oper} {S : World → Prop} {o : Oper} {a : Act}
theorem y_move (hw : Region.wanted o (yielded ops a.tmps) = true) (x : Operand) (ho : o.op = .move x) (v : Value) (hv : a.eval x = v) : YieldsIf Try.prog ops S o v a :=
  .inl ⟨hw, fun w _ => by simp only [execOp, ho, hv]; go_simp⟩
theorem y_assign (hw : Region.wanted o (yielded ops a.tmps) = true) (x : Operand) (ho : o.op = .assign x) (v : Value) (hv : a.eval x = v) : YieldsIf Try.prog ops S o v a :=
  .inl ⟨hw, fun w _ => by simp only [execOp, ho, hv]; go_simp⟩
theorem y_pickT (hw : Region.wanted o (yielded ops a.tmps) = true) (x y : Operand) (c : Operand) (ho : o.op = .pick c x y) (hc : a.eval c = .bool true) (v : Value) (hv : a.eval x = v) : YieldsIf Try.prog ops S o v a :=
  .inl ⟨hw, fun w _ => by
    obtain ⟨u, hu⟩ : ∃ u, a.eval x = u := ⟨_, rfl⟩
    rw [hu] at hv
    subst hv
    simp only [execOp, ho, hc, hu]
    go_simp⟩
theorem y_ldc (hw : Region.wanted o (yielded ops a.tmps) = true) (p : Operand) (ho : o.op = .load 27 p) (b : Nat) (hp : a.eval p = .pointer (some ⟨b, 0, none⟩)) (f : Cf) (hf : ∀ w, S w → CfB w b f) : YieldsIf Try.prog ops S o (.agg #[.int .i64 f.th, .int .i64 f.sl, .int .u8 f.en, .int .i64 f.bu, .int .u8 f.k, .int .i64 f.n, .slice f.A f.m f.c, .int .i64 (f.t 0), .int .i64 (f.t 1), .int .i64 (f.t 2), .int .i64 (f.t 3), .int .i64 (f.t 4), .int .i64 (f.t 5), .int .i64 f.lo, .int .i64 f.tr, .int .i64 f.ba]) a :=
  .inl ⟨hw, fun w hS => by simp only [execOp, ho, hp, Instr.loadAt, Instr.sureAddr, Sem.run_bind, Sem.run_pure, Result.andThen_ok, run_loadVar_mid w b 0 27 [.int .i64 f.th, .int .i64 f.sl, .int .u8 f.en, .int .i64 f.bu, .int .u8 f.k, .int .i64 f.n, .slice f.A f.m f.c, .int .i64 (f.t 0), .int .i64 (f.t 1), .int .i64 (f.t 2), .int .i64 (f.t 3), .int .i64 (f.t 4), .int .i64 (f.t 5), .int .i64 f.lo, .int .i64 f.tr, .int .i64 f.ba] _ (cfg_range (hf w hS)) Try.underlying27 rfl sz_cfg16]⟩
theorem y_nil (hw : Region.wanted o (yielded ops a.tmps) = true) (x : Operand) (ho : o.op = .nilCheck x) (b : Nat) (hx : a.eval x = .pointer (some ⟨b, 0, none⟩)) : YieldsIf Try.prog ops S o (.pointer (some ⟨b, 0, none⟩)) a :=
  .inl ⟨hw, fun w _ => by simp only [execOp, ho, hx]; go_simp⟩
theorem y_fldP (hw : Region.wanted o (yielded ops a.tmps) = true) (x : Operand) (ho : o.op = .fieldAddr 46 x 1) (b : Nat) (hx : a.eval x = .pointer (some ⟨b, 0, none⟩)) : YieldsIf Try.prog ops S o (.pointer (some ⟨b, 16, none⟩)) a :=
  .inl ⟨hw, fun w _ => by simp only [execOp, ho, hx]; go_simp⟩
theorem y_fldH (hw : Region.wanted o (yielded ops a.tmps) = true) (x : Operand) (ho : o.op = .fieldAddr 46 x 2) (b : Nat) (hx : a.eval x = .pointer (some ⟨b, 0, none⟩)) : YieldsIf Try.prog ops S o (.pointer (some ⟨b, 26, none⟩)) a :=
  .inl ⟨hw, fun w _ => by simp only [execOp, ho, hx]; go_simp⟩
theorem y_ld10 (hw : Region.wanted o (yielded ops a.tmps) = true) (p : Operand) (ho : o.op = .load 41 p) (b : Nat) (hp : a.eval p = .pointer (some ⟨b, 16, none⟩)) (g : Ge) (hf : ∀ w, S w → RAt w b g) : YieldsIf Try.prog ops S o (plV g) a :=
  .inl ⟨hw, fun w hS => by simp only [execOp, ho, hp, Instr.loadAt, Instr.sureAddr, Sem.run_bind, Sem.run_pure, Result.andThen_ok, run_loadVar_mid w b 16 41 [.int .i64 (plN g 0 : Nat), .int .i64 (plN g 1 : Nat), .int .i64 (plN g 2 : Nat), .int .i64 (plN g 3 : Nat), .int .i64 (plN g 4 : Nat), .int .i64 (plN g 5 : Nat), .int .i64 (plN g 6 : Nat), .int .i64 (plN g 7 : Nat), .int .i64 (plN g 8 : Nat), .int .i64 (plN g 9 : Nat)] _ (lay_range (hf w hS)) Try.underlying41 rfl sz_lay10]; rfl⟩
theorem y_eqL (hw : Region.wanted o (yielded ops a.tmps) = true) (x y : Operand) (T : TypeId) (ho : o.op = .binOp .eql 41 x y T) (g : Ge) (hx : a.eval x = plV g) (hy : a.eval y = plV g) : YieldsIf Try.prog ops S o (.bool true) a :=
  .inl ⟨hw, fun w _ => by
    have h1 := fun W => eqLay (plN g 0 : Nat) (plN g 1 : Nat) (plN g 2 : Nat) (plN g 3 : Nat) (plN g 4 : Nat) (plN g 5 : Nat) (plN g 6 : Nat) (plN g 7 : Nat) (plN g 8 : Nat) (plN g 9 : Nat) W
    have h2 := guardLay
    simp only [execOp, ho, hx, hy, plV]
    go_simp⟩
theorem y_ldH (hw : Region.wanted o (yielded ops a.tmps) = true) (p : Operand) (ho : o.op = .load 43 p) (b : Nat) (hp : a.eval p = .pointer (some ⟨b, 26, none⟩)) (v : Value) (hf : ∀ w, S w → w.cell? ⟨b, 26, none⟩ = some v) : YieldsIf Try.prog ops S o v a :=
  .inl ⟨hw, fun w hS => by have hc := hf w hS; simp only [execOp, ho, hp]; go_simp⟩
theorem y_len (hw : Region.wanted o (yielded ops a.tmps) = true) (x : Operand) (ho : o.op = .call { callee := .builtin .len, args := #[x], argTypes := #[43] }) (A : Option Addr) (n c : Nat) (hx : a.eval x = .slice A n c) : YieldsIf Try.prog ops S o (.int .i64 (n : Nat)) a :=
  .inl ⟨hw, fun w _ => by
    obtain ⟨dst, op, type, pos, after, guard⟩ := o
    simp only at ho
    subst ho
    simp only [BigFrame.execOp_builtin, List.map_toArray, List.map_cons, List.map_nil, hx]
    go_simp⟩
theorem y_eqI (hw : Region.wanted o (yielded ops a.tmps) = true) (x y : Operand) (T : TypeId) (ho : o.op = .binOp .eql 3 x y T) (m : Int) (hx : a.eval x = .int .i64 m) (hy : a.eval y = .int .i64 m) : YieldsIf Try.prog ops S o (.bool true) a :=
  .inl ⟨hw, fun w _ => by simp only [execOp, ho, hx, hy]; go_simp⟩
end
end Ly
end Go.Proofs.Ythmadcjkodfdeaa
