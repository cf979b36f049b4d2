/- sort.Slice over a row of candidates, with the bound method for 'less', and slices.Clone of one: contracts of the translated code. Conditions: at most 64 candidates, distinct keys. -/
import Derived.Test.YtbndgbjenmknmaaDoorQsH
import Derived.Shelf.GgSortFunc.Slice
import Derived.Shelf.GgSortFunc.SmallK
namespace Go.Proofs.YtbndgbjenmknmaaDoor
open Go.RowKit Go.Sort Go.Shelf Go.Lib Go.Extern
set_option linter.unusedVariables false
set_option linter.unusedSimpArgs false
namespace Hq
open Om (bel_alloc below_drewN)
theorem vo_q (p : Option Addr) (n c : Nat) (w : World) : (ReflectliteValue.unpack (.iface 63 (.slice p n c))).run Tryd.prog w = .ok (.agg #[.pointer (some ⟨Tryd.prog.globals.size, 63, none⟩), .pointer (some ⟨w.heap.size, 0, none⟩), .int .u64 151]) (w.alloc (.cells #[.slice p n c] 63)) := by kernel_rfl
theorem len_bi (p : Option Addr) (n c : Nat) (w : World) : (Builtin.len_ #[63] 0 #[.slice p n c]).run Tryd.prog w = .ok (.int .i64 n) w := by kernel_rfl
theorem len_q (a : Addr) (p : Option Addr) (n c : Nat) (w : World) (ha : w.cell? a = some (.slice p n c)) :
    (ReflectliteValue.method (ReflectliteValue.valueError "reflectlite.Value.Len" 0) ReflectliteValue.len #[.agg #[.pointer (some ⟨Tryd.prog.globals.size, 63, none⟩), .pointer (some a), .int .u64 151]]).run Tryd.prog w = .ok (.int .i64 n) w := by
  have hl : (loadVar 63 a).run Tryd.prog w = .ok (.slice p n c) w := by go_simp
  have hp : Tryd.prog.packed 63 = false := by kernel_rfl
  have hu : ∀ w, (Rtype.under 63).run Tryd.prog w = .ok (62, Tryd.t62) w := fun w => by kernel_rfl
  have hm : (Tryd.t62).desc = .slice 73 := by kernel_rfl
  rw [rl_method]
  have h7 := run_parts 63 a hp w
  simp only [typeHandle] at h7
  simp only [Sem.run_bind, h7, Result.andThen]
  unfold ReflectliteValue.len
  have h5 : (!([17, 18, 21, 23, 24].contains (151 % 32))) = false := by decide
  simp only [h5, Bool.false_eq_true, ↓reduceIte, Sem.run_bind, hu, Result.andThen, Sem.run_pure]
  simp only [hm, Sem.run_bind, hl, len_bi, Result.andThen]
/-- the swapper that the library hands out -/
def SwIs (sf : Nat) (sb : Array Value) (p : Option Addr) (n c : Nat) : Prop := ∀ w, (ReflectliteSwapper.swapper "internal/reflectlite" (ReflectliteValue.valueError "Swapper") #[.iface 63 (.slice p n c)]).run Tryd.prog w = .ok (.func (.func sf) #[] sb) w
theorem sw_0 (p : Option Addr) (c : Nat) : SwIs 55 #[] p 0 c := fun w => by kernel_rfl
theorem sw_1 (p : Option Addr) (c : Nat) : SwIs 56 #[] p 1 c := fun w => by kernel_rfl
theorem sw_2 (p : Option Addr) (n c : Nat) : SwIs 63 #[.slice p (n + 2) c, typeHandle Tryd.prog 73] p (n + 2) c := fun w => by kernel_rfl
theorem kd : (Tryd.prog.info? 73).map (fun i => i.size) = some 3 := by kernel_rfl
theorem swp_2 (g n c : Nat) : Swp 63 #[.slice (some ⟨g, 0, none⟩) n c, typeHandle Tryd.prog 73] g n := by
  cases e1 : Tryd.prog.info? 73 with
  | none => have := kd; rw [e1] at this; cases this
  | some i1 =>
    have h := kd
    rw [e1] at h
    simp only [Option.map_some, Option.some.injEq] at h
    exact swapSwapsK_of_literal false 63 (fun args W => run_callFunc_extern Tryd.func63 (by kernel_rfl) (by kernel_rfl) (by kernel_rfl) (e := Extern.ReflectliteSwapper.swap false) (by kernel_rfl) args W) 73 i1 e1 enc 3 (fun x => enc_len x) h (fun w => by kernel_rfl) (fun x v hv => by simp [enc] at hv; rcases hv with rfl | rfl | rfl <;> rfl) g 0 n c
theorem swp_0 (g : Nat) : Swp 55 #[] g 0 := fun W dk _ _ i j hi => absurd hi (Nat.not_lt_zero _)
theorem setCell_id {w : World} {b o : Nat} {v : Value} (h : w.cell? ⟨b, o, none⟩ = some v) : w.setCell ⟨b, o, none⟩ v = w := by
  unfold World.setCell
  cases w with
  | mk heap tape drawn os output =>
    simp only [World.mk.injEq, and_self, and_true]
    refine Array.ext_getElem? fun i => ?_
    rw [Array.getElem?_modify]
    split
    · rename_i hi
      subst hi
      simp only [World.cell?] at h
      cases e : heap[b]? with
      | none => rfl
      | some o' =>
        rw [e] at h
        cases o' with
        | cells c t fr =>
          simp at h
          simp only [Option.map_some, Option.some.injEq, Obj.cells.injEq, and_true]
          refine Array.ext_getElem? fun j => ?_
          simp only [Option.isSome_none, Bool.false_eq_true, ↓reduceIte]
          rw [Array.getElem?_setIfInBounds]
          split
          · rename_i hj
            subst hj
            split
            · exact h.symm
            · rename_i hlt; rw [Array.getElem?_eq_none (by omega)]
          · rfl
        | _ => simp
    · rfl
theorem swp_1 (g : Nat) : Swp 56 #[] g 1 := fun W dk hd hs i j hi hj => by
  obtain rfl : i = 0 := by omega
  obtain rfl : j = 0 := by omega
  have c0 := (hd.cell (i := 0) (c := 0) (by omega) (by omega)).1
  have c1 := (hd.cell (i := 0) (c := 1) (by omega) (by omega)).1
  have c2 := (hd.cell (i := 0) (c := 2) (by omega) (by omega)).1
  have e1 : (callFunc 56 (#[.int .i64 (0 : Nat), .int .i64 (0 : Nat)] ++ #[])).run Tryd.prog W = .ok (.value (.tuple #[])) W := by kernel_rfl
  rw [e1]
  have e2 : W.setCells g (0 + 0 * 3) (enc dk[0]!) = W := by
    simp only [enc, World.setCells]
    have k0 : W.cell? ⟨g, 0 + 0 * 3, none⟩ = some (.int .u64 dk[0]!.k) := by simpa [enc] using c0
    have k1 : W.cell? ⟨g, 0 + 0 * 3 + 1, none⟩ = some (.int .u64 dk[0]!.v) := by simpa [enc] using c1
    have k2 : W.cell? ⟨g, 0 + 0 * 3 + 1 + 1, none⟩ = some (.int .i64 (dk[0]!.l)) := by simpa [enc] using c2
    rw [setCell_id k0, setCell_id k1, setCell_id k2]
  rw [e2, e2]
/-- what sort.Slice leaves: the row has been permuted, and ascends -/
def SlP (g n : Nat) (f : Nat → Cd) (w : World) (e : Ending) (w' : World) : Prop := e = .returned (.tuple #[]) ∧ ∃ f', Sws 0 n f f' ∧ Srt 0 n f' ∧ Rw w g n f' w'
theorem bl64 {n : Nat} (h : n ≤ 64) : Lib.bitLen n ≤ 64 := Nat.le_trans (Lib.bitLen_le8 ⟨n, by omega⟩) (by omega)
noncomputable def slW (p : Option Addr) (n c : Nat) (w : World) : World := (w.alloc (.cells #[.slice p n c] 63)).alloc (.cells #[.pointer (some ⟨Tryd.prog.globals.size, 63, none⟩), .pointer (some ⟨w.heap.size, 0, none⟩), .int .u64 151] 95)
set_option maxRecDepth 100000 in
set_option maxHeartbeats 4000000 in
theorem slice_gen (p : Option Addr) (n c sf lf : Nat) (la sb : Array Value) (hsw : SwIs sf sb p n c) (w : World) (R : World → Prop) (hn : n ≤ 64)
    (hp : Calls Tryd.prog 48 #[.agg #[.func (.func lf) la #[], .func (.func sf) #[] sb], .int .i64 0, .int .i64 n, .int .i64 (Lib.bitLen n)] (slW p n c w) fun e w' => e = .returned (.tuple #[]) ∧ R w') :
    Calls Tryd.prog 31 #[.iface 63 (.slice p n c), .func (.func lf) la #[]] w fun e w' => e = .returned (.tuple #[]) ∧ R w' := by
  have hl := fun (a : Addr) (W : World) (ha : W.cell? a = some (.slice p n c)) => len_q a p n c W ha
  have hb := fun w => Any.bits_Len (LaysGg.n13.bits (P := Tryd.prog) (ρ := Tryd.sl6_ren) { Tryd.sl6 with }) (n : Int) w (by omega) (by omega)
  change ∀ w, Calls Tryd.prog 47 _ w _ at hb
  have HB := Lib.hid hb
  have wr : IntKind.u64.wrap (n : Int) = n := by simp [IntKind.wrap, IntKind.bits, IntKind.signed]; omega
  unfold slW at hp
  have hv := fun n => vo_q p n c w
  generalize Tryd.prog.globals.size = G at hp hl hv
  have HP := Lib.hid hp
  clear hb hp
  go_enter Tryd.func31, Tryd.ntmps31
  go_wp2
  rw [run_callFunc_extern Tryd.func44 (by kernel_rfl) (by kernel_rfl) (by kernel_rfl) (e := fun args => Extern.ReflectliteValue.unpack (args.getD 0 (.tuple #[]))) (by kernel_rfl),
    show Sem.run Tryd.prog ((fun args : Array Value => Extern.ReflectliteValue.unpack (args.getD 0 (.tuple #[]))) #[.iface 63 (.slice p n c)]) w = _ from hv n]
  simp only [Result.andThen]
  rw [Oper.upon_value]
  go_wp2
  rw [run_callFunc_extern Tryd.func45 (by kernel_rfl) (by kernel_rfl) (by kernel_rfl) (e := Extern.ReflectliteSwapper.swapper "internal/reflectlite" (Extern.ReflectliteValue.valueError "Swapper")) (by kernel_rfl), hsw]
  simp only [Result.andThen]
  rw [Oper.upon_value]
  go_wp2
  rw [run_callFunc_extern Tryd.func46 (by kernel_rfl) (by kernel_rfl) (by kernel_rfl) (e := Extern.ReflectliteValue.method (Extern.ReflectliteValue.valueError "reflectlite.Value.Len" 0) Extern.ReflectliteValue.len) (by kernel_rfl),
    hl _ _ (by simp)]
  simp only [Result.andThen]
  rw [Oper.upon_value]
  go_wp2_with fail
  refine (HB.out _).mono ?_
  rintro e w' ⟨rfl, rfl⟩
  go_wp2_with fail
  refine HP.out.mono ?_
  rintro r w3 ⟨rfl, h3⟩
  go_wp2_with fail
  go_end0
  exact ⟨rfl, h3⟩
theorem slice_of (g n c sf : Nat) (sb : Array Value) (hsw : SwIs sf sb (some ⟨g, 0, none⟩) n c) (hs : Swp sf sb g n) (f : Nat → Cd) (w : World) (h : Rw w g n f w) (hn : n ≤ 64) (ho : Hp.Once ky f n) :
    Calls Tryd.prog 31 #[.iface 63 (.slice (some ⟨g, 0, none⟩) n c), lsV g n c] w (SlP g n f w) :=
  slice_gen (some ⟨g, 0, none⟩) n c sf _ _ sb hsw w (fun w' => ∃ f', Sws 0 n f f' ∧ Srt 0 n f' ∧ Rw w g n f' w') hn
    ((pdq_all g n c sf sb hs hn n 0 n (Lib.bitLen n) f _ (by omega) ((h.alloc _).alloc _).again (by omega) (by omega) (bl64 hn) (fun h0 => absurd h0 (by omega)) ho).mono fun e w' ⟨he, f', h1, h2, h3⟩ => ⟨he, f', h1, h2, ((h.alloc _).alloc _).on h3⟩)
theorem slice_any (g n c : Nat) (f : Nat → Cd) (w : World) (h : Rw w g n f w) (hn : n ≤ 64) (ho : Hp.Once ky f n) :
    Calls Tryd.prog 31 #[.iface 63 (.slice (some ⟨g, 0, none⟩) n c), lsV g n c] w (SlP g n f w) := by
  match n, h, hn, ho with
  | 0, h, hn, ho => exact slice_of g 0 c _ _ (sw_0 _ c) (swp_0 g) f w h hn ho
  | 1, h, hn, ho => exact slice_of g 1 c _ _ (sw_1 _ c) (swp_1 g) f w h hn ho
  | n + 2, h, hn, ho => exact slice_of g (n + 2) c _ _ (sw_2 _ n c) (swp_2 g (n + 2) c) f w h hn ho
end Hq
end Go.Proofs.YtbndgbjenmknmaaDoor
