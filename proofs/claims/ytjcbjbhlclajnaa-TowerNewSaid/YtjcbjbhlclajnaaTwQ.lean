/- A tower's words, its state's descriptor, its pair: contracts of the translated code of package tower. Conditions: those of each contract. -/
import Derived.Test.YtjcbjbhlclajnaaTwP
import Derived.Test.YtjcbjbhlclajnaaLyQ
import Derived.Test.YtjcbjbhlclajnaaField
namespace Go.Proofs.Ytjcbjbhlclajnaa
open Go.RowKit Go.Sort
set_option linter.unusedVariables false
set_option linter.unusedSimpArgs false
set_option maxRecDepth 100000
namespace Tw
open Wd
open Ly (Ge tot pk pW nxO wdO ad tg gs InT Cf LyAt I64 KI)
open Dm (addr_lit info_parts spot_none RdK flatU infoU bel_alloc bel_trans own_keep below_drewN)
/-- a word of a tower -/
def wdV (g : Ge) (M : Wm) (x u : Int) : Int := match wdO g x u with | some a => M.get (a : Nat) | none => M.get 0
theorem wdV_bd {g : Ge} {M : Wm} (hb : BdW M.W) (x u : Int) : 0 ≤ wdV g M x u ∧ wdV g M x u ≤ 18446744073709551615 := by
  unfold wdV
  split
  · exact Wm.get_bd hb _
  · exact Wm.get_bd hb _
theorem wd_lt {g : Ge} {x u : Int} {a : Nat} (e : wdO g x u = some a) : a < pW g := by
  unfold wdO at e
  split at e
  · exact ((Ly.ad_iff g (9, x, u) a).1 e).1
  · cases e
section
variable {w : World} {x bm p : Nat} {q : Option Nat} {bl : Nat} {f : Cf} {l : List Int} {g : Ge} {M : Wm}
theorem pW_pos (h : g.ok) : 0 < pW g := by have := h.s1; unfold pW Ly.pT; omega
theorem reader1_any (hT : Tt w x bm p q bl f l g M) {bT bX : Nat} {tw : Int} (c1 : w.cell? ⟨bT, 0, none⟩ = some (.pointer (some ⟨x, 0, none⟩))) (c2 : w.cell? ⟨bX, 0, none⟩ = some (.int .i64 tw)) (u : Int) : Calls Try.prog 79 #[.int .i64 u, .pointer (some ⟨bT, 0, none⟩), .pointer (some ⟨bX, 0, none⟩)] w fun e w' => e = .returned (.int .u64 (wdV g M tw u)) ∧ Below w.heap.size w w' := by
  have hd := hT.below (w' := w.drew) (below_drewN (Below.refl _ w) 1)
  have CW := Ly.word_any hd.ly hd.ok tw u
  obtain ⟨a, E, hr, ha, hv⟩ : ∃ (a : Nat) (E : Int), Ly.resp (wdO g tw u) = .tuple #[.int .i64 (a : Int), .int .i64 E] ∧ a < pW g ∧ wdV g M tw u = M.get (a : Nat) := by
    unfold wdV
    cases e : wdO g tw u with
    | none => exact ⟨0, 3, rfl, pW_pos hT.ok, rfl⟩
    | some a => exact ⟨a, 0, rfl, wd_lt e, rfl⟩
  rw [hr] at CW
  rw [hv]
  have CP := fun (W : World) (hb : Below w.heap.size w W) => Lib.hid (peek_at (hT.below hb) ha)
  obtain ⟨A, hA⟩ : ∃ A : Int, A = (a : Int) := ⟨_, rfl⟩
  rw [← hA] at CW CP ⊢
  replace CW := Lib.hid CW
  have x0 := hT.c0
  have x1 := hT.c1
  have lx := hT.lt
  have lT : bT < w.heap.size := World.block_lt_of_cell? w _ c1
  have lX : bX < w.heap.size := World.block_lt_of_cell? w _ c2
  have x1d : w.drew.cell? ⟨x, 1, none⟩ = some (.pointer (some ⟨bl, 0, none⟩)) := x1
  have c1d : w.drew.cell? ⟨bT, 0, none⟩ = some (.pointer (some ⟨x, 0, none⟩)) := c1
  have c2d : w.drew.cell? ⟨bX, 0, none⟩ = some (.int .i64 tw) := c2
  clear hT hd hr ha hv hA
  go_enter Try.func79, Try.ntmps79
  go_wp2_with fail
  go_region_held3 (fun w' => w'.cell? ⟨bT, 0, none⟩ = some (.pointer (some ⟨x, 0, none⟩)) ∧ w'.cell? ⟨x, 1, none⟩ = some (.pointer (some ⟨bl, 0, none⟩)) ∧ w'.cell? ⟨bX, 0, none⟩ = some (.int .i64 tw)) (first | exact ⟨c1, x1, c2⟩ | with_reducible exact mm) (first | (go_at_call 28; refine CW.out.mono ?_; rintro r1 W3 ⟨rfl, hb3⟩; have mm := And.intro ((hb3.cell (p := ⟨bT, 0, none⟩) lT).trans c1d) (And.intro ((hb3.cell (p := ⟨x, 1, none⟩) lx).trans x1d) ((hb3.cell (p := ⟨bX, 0, none⟩) lX).trans c2d))))
  all_goals
    have hB : Below w.heap.size w W3 := ⟨hb3.os, hb3.tape, hb3.output, hb3.size, hb3.block⟩
    have CP3 := CP W3 hB
    have m1 := mm.1
    have m0 := (hB.cell (p := ⟨x, 0, none⟩) lx).trans x0
    have HB := Lib.hid hB
    clear hb3 mm hB CP
    go_wp2_with fail
    refine CP3.out.mono ?_
    rintro r1 W4 ⟨rfl, e⟩
    obtain rfl := e.symm
    go_wp2
    go_ret
    exact ⟨rfl, HB.out⟩
/-- the descriptor that a state refers to -/
def dsV (g : Ge) (M : Wm) (s : Int) : Int := if s % 8 ≤ 2 then 0 else M.get ((Ly.pD g : Int) + s % 65536 / 8)
theorem of_desc (ok : g.ok) {e : Nat} (he : e < g.L) : Ly.ofZ g ((Ly.pD g + e : Nat) : Int) = (5, (e : Int), 0) := by
  unfold Ly.ofZ
  rw [if_pos (by omega), Int.toNat_natCast]
  have ht : Ly.total ((gs g).take 4) = Ly.pD g := by
    unfold gs Ly.g0 Ly.pD
    simp [Ly.total]
    omega
  rw [Ly.ofL_at (gs g) 4 ⟨5, 0, g.L, 1⟩ _ rfl (by rw [ht]; omega) (by rw [ht]; show _ < _ + g.L * 1; omega), ht]
  unfold Ly.G.at'
  simp
theorem pD_lt (ok : g.ok) {e : Nat} (he : e < g.L) : Ly.pD g + e < pW g := by
  unfold Ly.pD pW Ly.pT
  omega
theorem field_pc0 (a b c : Value) (W : World) : (Instr.field 208 (.agg #[a, b, c]) 0).run Try.prog W = .ok a W := by
  have hp : (part 5 #[a, b, c] 0).run Try.prog W = .ok a W := run_part_plain W (by kernel_rfl) rfl
  simp [Instr.field, run_underlying Try.underlying208, asAgg, hp]
set_option maxHeartbeats 2000000 in
theorem desc_any (hT : Tt w x bm p q bl f l g M) {s : Int} (s0 : 0 ≤ s) (s1 : s ≤ 18446744073709551615) (hs : s % 8 ≤ 2 ∨ s % 65536 / 8 < (g.L : Int)) : Calls Try.prog 80 #[.pointer (some ⟨x, 0, none⟩), .int .u64 s] w fun e w' => e = .returned (.tuple #[.int .u64 (dsV g M s), .bool true]) ∧ Below w.heap.size w w' := by
  have CK := Lib.hid (Fl.kind_any s s0 s1 w)
  by_cases hk : s % 8 ≤ 2
  · unfold dsV
    rw [if_pos hk]
    have hk3 : s % 8 = 0 ∨ s % 8 = 1 ∨ s % 8 = 2 := by omega
    clear hT hs hk
    rcases hk3 with e | e | e <;>
    · rw [e] at CK
      clear e
      go_enter Try.func80, Try.ntmps80
      go_wp2_with fail
      refine CK.out.mono ?_
      rintro r1 W1 ⟨rfl, e⟩
      obtain rfl := e
      go_wp2
      go_ret2
      exact ⟨rfl, Below.refl _ _⟩
  · have he : s % 65536 / 8 < (g.L : Int) := by omega
    unfold dsV
    rw [if_neg hk]
    obtain ⟨K, hK⟩ : ∃ K, K = s % 8 := ⟨_, rfl⟩
    rw [← hK] at CK hk
    obtain ⟨en, hen⟩ := Int.eq_ofNat_of_zero_le (show 0 ≤ s % 65536 / 8 by omega)
    rw [hen] at he ⊢
    have hL := hT.ok.l2
    have hel : en < g.L := by omega
    have CE := Fl.entry_any s s0 s1
    rw [hen] at CE
    have CPl := Ly.places_any hT.ly
    unfold Ly.plV at CPl
    rw [show Ly.plN g 4 = Ly.pD g from rfl] at CPl
    have hdl := pD_lt hT.ok hel
    have hp20 : Ly.pD g ≤ 400 := by
      have := hT.ok.s2; have := hT.ok.e2
      unfold Ly.pD; omega
    obtain ⟨ad, had⟩ : ∃ a, a = Ly.pD g + en := ⟨_, rfl⟩
    have CO := fun (W : World) (hb : Below w.heap.size w W) => Ly.ofc_any (hT.below hb).ly hT.ok (ad : Int)
    have hof := of_desc hT.ok hel
    rw [← had] at hof hdl
    rw [hof] at CO
    unfold Ly.plcV at CO
    dsimp only at CO
    have CPk := fun (W : World) (hb : Below w.heap.size w W) => Lib.hid (peek_at (hT.below hb) hdl)
    have kx := fun (W : World) (hb : Below w.heap.size w W) => (show W.cell? ⟨x, 0, none⟩ = some (.pointer (some ⟨bm, 0, none⟩)) ∧ W.cell? ⟨x, 1, none⟩ = some (.pointer (some ⟨bl, 0, none⟩)) from ⟨(hT.below hb).c0, (hT.below hb).c1⟩)
    have c1 := hT.c1
    have hsum : (Ly.pD g : Int) + (en : Int) = (ad : Int) := by omega
    have hw : IntKind.i64.wrap ((Ly.pD g : Int) + (en : Int)) = (ad : Int) := by rw [hsum]; exact IntWalk.i64_in _ (by omega)
    rw [hsum]
    have k0 : (K == 0) = false := by simp; omega
    have k1 : (K == 1) = false := by simp; omega
    have k2 : (K == 2) = false := by simp; omega
    have hf4 := field_pl4
    have hf0 := field_pc0
    generalize Ly.pD g = D at *
    have CE2 := fun W => Lib.hid (CE W)
    have CPl2 := Lib.hid CPl
    have CO2 := fun W hb => Lib.hid (CO W hb)
    obtain ⟨AD, hAD⟩ : ∃ A : Int, A = (ad : Int) := ⟨_, rfl⟩
    rw [← hAD] at CO2 CPk hw ⊢
    clear hT hs hk hK hen he hL hel CE CPl hdl hp20 had CO hof hsum hAD
    go_enter Try.func80, Try.ntmps80
    go_wp2_with fail
    refine CK.out.mono ?_
    rintro r1 W1 ⟨rfl, e⟩
    obtain rfl := e
    go_wp2_with fail
    refine CPl2.out.mono ?_
    rintro r1 W1 ⟨rfl, hb1⟩
    have c1b := (kx W1 hb1).2
    have HB1 := Lib.hid hb1
    clear hb1
    go_wp2_with fail
    refine (CE2 _).out.mono ?_
    rintro r1 W2 ⟨rfl, e⟩
    obtain rfl := e
    go_wp2_with fail
    refine (CO2 _ HB1.out).out.mono ?_
    rintro r1 W3 ⟨rfl, hb3⟩
    have HB3 := Lib.hid (HB1.out.trans (hb3.mono HB1.out.size))
    have c0c := (kx W3 HB3.out).1
    have CP3 := CPk W3 HB3.out
    clear hb3 kx CPk CO2 CE2 CPl2
    go_wp2_with fail
    refine CP3.out.mono ?_
    rintro r1 W4 ⟨rfl, e⟩
    obtain rfl := e.symm
    go_wp2
    go_ret2
    exact ⟨rfl, HB3.out⟩
end
end Tw
end Go.Proofs.Ytjcbjbhlclajnaa
