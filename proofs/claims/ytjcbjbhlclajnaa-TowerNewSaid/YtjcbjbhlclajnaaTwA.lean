/- The towers of a memory in memory; next, After, has, head of package tower: contracts of the translated code. Conditions: those of each contract. -/
import Derived.Test.YtjcbjbhlclajnaaTwM
import Derived.Test.YtjcbjbhlclajnaaWdE
namespace Go.Proofs.Ytjcbjbhlclajnaa
open Go.RowKit Go.Sort
set_option linter.unusedVariables false
set_option linter.unusedSimpArgs false
set_option maxRecDepth 100000
namespace Tw
open Wd
open Ly (Ge tot pk pW nxO wdO ad tg gs InT Cf LyAt I64)
open Dm (addr_lit info_parts spot_none RdK flatU infoU bel_alloc bel_trans own_keep below_drewN)
/-- the towers of a memory -/
structure Tt (w : World) (x bm p : Nat) (q : Option Nat) (bl : Nat) (f : Cf) (l : List Int) (g : Ge) (M : Wm) : Prop where
  c0 : w.cell? ⟨x, 0, none⟩ = some (.pointer (some ⟨bm, 0, none⟩))
  c1 : w.cell? ⟨x, 1, none⟩ = some (.pointer (some ⟨bl, 0, none⟩))
  m : At 155 w bm p q M
  ly : LyAt w bl f l g
  ok : g.ok
  n : M.W.length = pW g
section
variable {w : World} {x bm p : Nat} {q : Option Nat} {bl : Nat} {f : Cf} {l : List Int} {g : Ge} {M : Wm}
theorem Tt.lt (h : Tt w x bm p q bl f l g M) : x < w.heap.size := World.block_lt_of_cell? w _ h.c0
theorem Tt.below (h : Tt w x bm p q bl f l g M) {w' : World} (hb : Below w.heap.size w w') : Tt w' x bm p q bl f l g M :=
  ⟨(hb.cell (p := ⟨x, 0, none⟩) h.lt).trans h.c0, (hb.cell (p := ⟨x, 1, none⟩) h.lt).trans h.c1, h.m.below hb, h.ly.below hb, h.ok, h.n⟩
theorem Tt.bd (h : Tt w x bm p q bl f l g M) : BdW M.W := by
  obtain ⟨_, _, _, ha⟩ := h.m
  exact ha.bd
theorem nxV_none {g : Ge} {M : Wm} {r u : Int} (e : nxO g r u = none) : nxV g M r u = 0 ∧ nxE g r u = 3 := by unfold nxV nxE; rw [e]; exact ⟨rfl, rfl⟩
theorem nxV_some {g : Ge} {M : Wm} {r u : Int} {a : Nat} (e : nxO g r u = some a) : nxV g M r u = M.get (a : Nat) ∧ nxE g r u = 0 := by unfold nxV nxE; rw [e]; exact ⟨rfl, rfl⟩
theorem nx_lt {g : Ge} {r u : Int} {a : Nat} (e : nxO g r u = some a) : a < pW g := by
  unfold nxO at e
  have key : ∀ k x v, ad g k x v = some a → a < pW g := fun k x v h => ((Ly.ad_iff g (k, x, v) a).1 h).1
  split at e
  · split at e
    · exact key _ _ _ e
    · split at e
      · cases e
      · exact key _ _ _ e
  · cases e
theorem peek_at (h : Tt w x bm p q bl f l g M) {a : Nat} (ha : a < pW g) : Calls Try.prog 74 #[.pointer (some ⟨bm, 0, none⟩), .int .i64 (a : Int)] w fun e w' => e = .returned (.tuple #[.int .u64 (M.get (a : Nat)), .bool true]) ∧ w' = w := by
  have hp := peek_any bm p q M (a : Int) w h.m
  have hh : (0 : Int) ≤ (a : Int) ∧ (a : Int) < M.W.length := by have := h.n; omega
  unfold peekT at hp
  rw [if_pos hh, decide_eq_true hh] at hp
  exact hp
theorem next_any (h : Tt w x bm p q bl f l g M) (r u : Int) (hr : I64 r) : Calls Try.prog 39 #[.pointer (some ⟨x, 0, none⟩), .int .i64 r, .int .i64 u] w fun e w' => e = .returned (.tuple #[.int .u64 (nxV g M r u), .int .i64 (nxE g r u)]) ∧ Below w.heap.size w w' := by
  have CN := Ly.next_any h.ly h.ok r u hr
  have H := Lib.hid h
  have c0 := h.c0
  have c1 := h.c1
  cases e : nxO g r u with
  | none =>
    rw [e, show Ly.resp none = .tuple #[.int .i64 0, .int .i64 3] from rfl] at CN
    rw [(nxV_none (M := M) e).1, (nxV_none (M := M) e).2]
    replace CN := Lib.hid CN
    clear h e
    go_enter Try.func39, Try.ntmps39
    go_wp2_with fail
    refine CN.out.mono ?_
    rintro r1 W1 ⟨rfl, hb1⟩
    have HB1 := Lib.hid hb1
    clear hb1
    go_wp2
    go_ret2
    exact ⟨rfl, HB1.out⟩
  | some a =>
    rw [e, show Ly.resp (some a) = .tuple #[.int .i64 (a : Nat), .int .i64 0] from rfl] at CN
    rw [(nxV_some (M := M) e).1, (nxV_some (M := M) e).2]
    have CP := fun (W : World) (hb : Below w.heap.size w W) => Lib.hid (peek_at (h.below hb) (nx_lt e))
    replace CN := Lib.hid CN
    obtain ⟨A, hA⟩ : ∃ A : Int, A = (a : Int) := ⟨_, rfl⟩
    rw [← hA] at CN CP ⊢
    have k0 := fun (W : World) (hb : Below w.heap.size w W) => (h.below hb).c0
    clear h e hA
    go_enter Try.func39, Try.ntmps39
    go_wp2_with fail
    refine CN.out.mono ?_
    rintro r1 W1 ⟨rfl, hb1⟩
    have d0 := k0 W1 hb1
    have CP1 := CP W1 hb1
    have HB1 := Lib.hid hb1
    clear hb1 CP k0
    go_wp2_with fail
    refine CP1.out.mono ?_
    rintro r1 W2 ⟨rfl, rfl⟩
    go_wp2
    go_ret2
    exact ⟨rfl, HB1.out⟩
theorem nx_two (g : Ge) (M : Wm) (r u : Int) : nxE g r u = 0 ∨ (nxE g r u = 3 ∧ nxV g M r u = 0) := by
  cases e : nxO g r u with
  | none => exact .inr ⟨(nxV_none (M := M) e).2, (nxV_none e).1⟩
  | some a => exact .inl (nxV_some (M := M) e).2
theorem nxV_bd {g : Ge} {M : Wm} (hb : BdW M.W) (r u : Int) : 0 ≤ nxV g M r u ∧ nxV g M r u ≤ 18446744073709551615 := by
  unfold nxV
  split
  · exact Wm.get_bd hb _
  · omega
theorem after_any (h : Tt w x bm p q bl f l g M) (r u : Int) (hr : I64 r) : Calls Try.prog 12 #[.pointer (some ⟨x, 0, none⟩), .int .i64 r, .int .i64 u] w fun e w' => e = .returned (.tuple #[.int .i64 (af g M r u), .int .i64 (nxE g r u)]) ∧ Below w.heap.size w w' := by
  have CN := next_any h r u hr
  have hV := nxV_bd h.bd (g := g) r u
  have hT := h.ok.tt
  have CT := fun (W : World) (hb : Below w.heap.size w W) => Lib.hid (Ly.towers_any (h.below hb).ly)
  have k1 := fun (W : World) (hb : Below w.heap.size w W) => (h.below hb).c1
  unfold af
  rcases nx_two g M r u with e | ⟨e, e2⟩
  · rw [e] at CN ⊢
    generalize nxV g M r u = V at CN hV ⊢
    obtain ⟨N, hN⟩ : ∃ N, N = tot g.t 6 := ⟨_, rfl⟩
    rw [← hN] at hT CT ⊢
    replace CN := Lib.hid CN
    have hw : IntKind.u64.wrap (N : Int) = (N : Int) := by show (N : Int) % 18446744073709551616 = (N : Int); omega
    clear h e hN
    by_cases hle : V ≤ (N : Int)
    · rw [if_pos hle]
      have d0 : decide ((N : Int) < V) = false := decide_eq_false (by omega)
      have d1 : decide (V > (N : Int)) = false := decide_eq_false (by omega)
      have hw2 : IntKind.i64.wrap V = V := IntWalk.i64_in _ (by omega)
      go_enter Try.func12, Try.ntmps12
      go_wp2_with fail
      refine CN.out.mono ?_
      rintro r1 W1 ⟨rfl, hb1⟩
      have c1 := k1 W1 hb1
      have CT1 := CT W1 hb1
      have HB1 := Lib.hid hb1
      clear hb1 CT k1
      go_wp2_with fail
      refine CT1.out.mono ?_
      rintro r1 W2 ⟨rfl, e⟩
      obtain rfl := e.symm
      go_wp2
      go_ret2
      exact ⟨rfl, HB1.out⟩
    · rw [if_neg hle]
      have d0 : decide ((N : Int) < V) = true := decide_eq_true (by omega)
      have d1 : decide (V > (N : Int)) = true := decide_eq_true (by omega)
      go_enter Try.func12, Try.ntmps12
      go_wp2_with fail
      refine CN.out.mono ?_
      rintro r1 W1 ⟨rfl, hb1⟩
      have c1 := k1 W1 hb1
      have CT1 := CT W1 hb1
      have HB1 := Lib.hid hb1
      clear hb1 CT k1
      go_wp2_with fail
      refine CT1.out.mono ?_
      rintro r1 W2 ⟨rfl, e⟩
      obtain rfl := e.symm
      go_wp2
      go_ret2
      exact ⟨rfl, HB1.out⟩
  · rw [e, e2] at CN
    rw [e, e2, if_pos (by omega)]
    replace CN := Lib.hid CN
    clear h e e2 hV hT CT k1
    go_enter Try.func12, Try.ntmps12
    go_wp2_with fail
    refine CN.out.mono ?_
    rintro r1 W1 ⟨rfl, hb1⟩
    have HB1 := Lib.hid hb1
    clear hb1
    go_wp2
    go_ret2
    exact ⟨rfl, HB1.out⟩
theorem head_any (v : Int) (hv : I64 v) (w : World) : Calls Try.prog 72 #[.int .i64 v] w fun e w' => e = .returned (.int .i64 (-1 - v)) ∧ w' = w := by
  have hv1 := hv.1
  have hv2 := hv.2
  have hw : IntKind.i64.wrap (-1 - v) = -1 - v := IntWalk.i64_in _ (by omega)
  have hw' : wrap64 (-1 - v) = -1 - v := IntWalk.wrap64_in _ (by omega)
  clear hv hv1 hv2
  go_enter Try.func72, Try.ntmps72
  go_wp2
  go_ret
  exact ⟨rfl, rfl⟩
/-- there is a list of a domain value at a level -/
def hasB (g : Ge) (v u : Int) : Bool := decide (0 ≤ v) && decide (nxE g (-1 - v) u = 0)
theorem has_any (h : Tt w x bm p q bl f l g M) (v u : Int) (hv : I64 v) : Calls Try.prog 37 #[.pointer (some ⟨x, 0, none⟩), .int .i64 v, .int .i64 u] w fun e w' => e = .returned (.bool (hasB g v u)) ∧ Below w.heap.size w w' := by
  unfold hasB
  by_cases h0 : 0 ≤ v
  · rw [decide_eq_true h0, Bool.true_and]
    have d0 : decide (v < 0) = false := decide_eq_false (by omega)
    have hr : I64 (-1 - v) := ⟨by have := hv.2; omega, by omega⟩
    have CH := fun W => Lib.hid (head_any v hv W)
    have hd := h.below (w' := w.drew) (below_drewN (Below.refl _ w) 1)
    have c1 := hd.c1
    have hx := hd.lt
    obtain ⟨o, ho⟩ : ∃ o, o = nxO g (-1 - v) u := ⟨_, rfl⟩
    have CN := Ly.next_any hd.ly hd.ok (-1 - v) u hr
    obtain ⟨V, E, hVE, hE⟩ : ∃ V E : Int, Ly.resp (nxO g (-1 - v) u) = .tuple #[.int .i64 V, .int .i64 E] ∧ E = nxE g (-1 - v) u := by
      unfold nxE
      cases nxO g (-1 - v) u with
      | none => exact ⟨_, _, rfl, rfl⟩
      | some a => exact ⟨_, _, rfl, rfl⟩
    rw [hVE] at CN
    rw [← hE]
    have q1 : (E == 0) = decide (E = 0) := by by_cases e : E = 0 <;> simp [e]
    replace CN := Lib.hid CN
    clear h hd hr hVE hE ho o hv h0
    go_enter Try.func37, Try.ntmps37
    go_wp2_with fail
    go_region_held3 (fun w' => w'.cell? ⟨x, 1, none⟩ = some (.pointer (some ⟨bl, 0, none⟩))) (first | exact c1 | with_reducible exact m1) (first | (go_at_call 72; refine (CH _).out.mono ?_; rintro r1 W2 ⟨rfl, e⟩; obtain rfl := e.symm) | (go_at_call 25; refine CN.out.mono ?_; rintro r1 W3 ⟨rfl, hb3⟩; have m1 := (hb3.cell (p := ⟨x, 1, none⟩) hx).trans c1))
    all_goals
      have HB := Lib.hid (show Below w.heap.size w W3 from ⟨hb3.os, hb3.tape, hb3.output, hb3.size, hb3.block⟩)
      clear hb3 m1
      go_wp2
      go_ret
      exact ⟨rfl, HB.out⟩
  · rw [decide_eq_false h0, Bool.false_and]
    have d0 : decide (v < 0) = true := decide_eq_true (by omega)
    clear h hv h0
    go_enter Try.func37, Try.ntmps37
    go_wp2
    go_ret
    exact ⟨rfl, Below.refl _ _⟩
end
end Tw
end Go.Proofs.Ytjcbjbhlclajnaa
