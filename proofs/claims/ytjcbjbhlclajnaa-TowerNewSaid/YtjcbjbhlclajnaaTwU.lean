/- The pair of a tower: contract of the translated code of package tower. Conditions: the entry of its state exists. -/
import Derived.Test.YtjcbjbhlclajnaaTwQ
namespace Go.Proofs.Ytjcbjbhlclajnaa
open Go.RowKit Go.Sort
set_option linter.unusedVariables false
set_option linter.unusedSimpArgs false
set_option maxRecDepth 100000
namespace Tw
open Wd
open Ly (Ge tot pk pW nxO wdO ad tg gs InT Cf LyAt I64 KI)
open Dm (addr_lit info_parts spot_none RdK flatU infoU bel_alloc bel_trans own_keep below_drewN)
/-- the pair that a tower stands for -/
def prO (g : Ge) (M : Wm) (x : Int) : Option Pq :=
  if Fl.dcE (wdV g M x 4) (dsV g M (wdV g M x 4)) = 0 ∧ Fl.dcP (wdV g M x 4) (dsV g M (wdV g M x 4)) = true then some (wdV g M x 0, if Fl.dcA (wdV g M x 4) (dsV g M (wdV g M x 4)) = true then wdV g M x 2 else wdV g M x 1) else none
/-- its state refers to an entry that there is -/
def StOk (g : Ge) (M : Wm) (x : Int) : Prop := wdV g M x 4 % 8 ≤ 2 ∨ wdV g M x 4 % 65536 / 8 < (g.L : Int)
def pqV (o : Option Pq) : Value := match o with | some y => .tuple #[.agg #[.int .u64 y.1, .int .u64 y.2], .bool true] | none => .tuple #[.agg #[.int .u64 0, .int .u64 0], .bool false]
section
variable {w : World} {x bm p : Nat} {q : Option Nat} {bl : Nat} {f : Cf} {l : List Int} {g : Ge} {M : Wm}
theorem reader_any (x : Nat) (tw : Int) (w : World) : Calls Try.prog 43 #[.pointer (some ⟨x, 0, none⟩), .int .i64 tw] w fun e w' => e = .returned (.func (.func 79) #[] #[.pointer (some ⟨w.heap.size, 0, none⟩), .pointer (some ⟨w.heap.size + 1, 0, none⟩)]) ∧ w' = (w.alloc (.cells #[.pointer (some ⟨x, 0, none⟩)] 22)).alloc (.cells #[.int .i64 tw] 3) := by
  go_enter Try.func43, Try.ntmps43
  go_wp2
  go_ret
  exact ⟨rfl, rfl⟩
theorem dsV_bd {g : Ge} {M : Wm} (hb : BdW M.W) (s : Int) : 0 ≤ dsV g M s ∧ dsV g M s ≤ 18446744073709551615 := by
  unfold dsV
  split
  · omega
  · exact Wm.get_bd hb _
set_option maxHeartbeats 4000000 in
theorem pair_any (hT : Tt w x bm p q bl f l g M) (tw : Int) (hs : StOk g M tw) : Calls Try.prog 45 #[.pointer (some ⟨x, 0, none⟩), .int .i64 tw] w fun e w' => e = .returned (pqV (prO g M tw)) ∧ Below w.heap.size w w' := by
  have hbd := hT.bd
  have s4 := wdV_bd (g := g) hbd tw 4
  have dbd := dsV_bd (g := g) hbd (wdV g M tw 4)
  obtain ⟨W0, hW0⟩ : ∃ W, W = w.alloc (.cells #[.int .u64 0, .int .u64 0] 38) := ⟨_, rfl⟩
  have b0 : Below w.heap.size w W0 := by rw [hW0]; exact bel_alloc (Below.refl _ _) _
  obtain ⟨W1, hW1⟩ : ∃ W, W = (W0.alloc (.cells #[.pointer (some ⟨x, 0, none⟩)] 22)).alloc (.cells #[.int .i64 tw] 3) := ⟨_, rfl⟩
  have b1 : Below W0.heap.size W0 W1 := by rw [hW1]; exact bel_alloc (bel_alloc (Below.refl _ _) _) _
  have s01 : W0.heap.size = w.heap.size + 1 := by rw [hW0, World.size_alloc]
  have hT1 := (hT.below b0).below b1
  have cT : W1.cell? ⟨W0.heap.size, 0, none⟩ = some (.pointer (some ⟨x, 0, none⟩)) := by
    rw [hW1, World.cell?_alloc_lt _ _ _ (by simp)]
    exact World.cell?_alloc_new _ _ _ _
  have cX : W1.cell? ⟨W0.heap.size + 1, 0, none⟩ = some (.int .i64 tw) := by
    rw [hW1]
    have := World.cell?_alloc_new (W0.alloc (.cells #[.pointer (some ⟨x, 0, none⟩)] 22)) #[.int .i64 tw] 3 0
    rw [World.size_alloc] at this
    exact this
  have lT : W0.heap.size < W1.heap.size := World.block_lt_of_cell? _ _ cT
  have lX : W0.heap.size + 1 < W1.heap.size := World.block_lt_of_cell? _ _ cX
  have rz : W0.cell? ⟨w.heap.size, 0, none⟩ = some (.int .u64 0) ∧ W0.cell? ⟨w.heap.size, 1, none⟩ = some (.int .u64 0) ∧ (∀ j, W0.frozen? ⟨w.heap.size, j, none⟩ = false) := by
    have hh : W0.heap[w.heap.size]? = some (.cells #[.int .u64 0, .int .u64 0] 38 (0, 0)) := by rw [hW0]; exact heap_alloc_new w _
    exact ⟨by simp [World.cell?, hh], by simp [World.cell?, hh], fun j => by simp [World.frozen?, hh]⟩
  have lR : w.heap.size < W0.heap.size := by omega
  have CR := Lib.hid (reader_any x tw W0)
  have CW := fun (W : World) (u : Int) (hb : Below W1.heap.size W1 W) => Lib.hid (reader1_any (hT1.below hb) ((hb.cell (p := ⟨W0.heap.size, 0, none⟩) lT).trans cT) ((hb.cell (p := ⟨W0.heap.size + 1, 0, none⟩) lX).trans cX) u)
  have CD := fun (W : World) (hb : Below W1.heap.size W1 W) => Lib.hid (desc_any (hT1.below hb) s4.1 s4.2 hs)
  have CDec := fun (W : World) => Fl.decide_any (wdV g M tw 4) (dsV g M (wdV g M tw 4)) s4.1 s4.2 dbd.1 dbd.2 W
  have HBW := Lib.hid (show Below w.heap.size w W1 from b0.trans (b1.mono b0.size))
  have HR := Lib.hid (fun (W : World) (hb : Below W1.heap.size W1 W) => (show W.cell? ⟨w.heap.size, 0, none⟩ = some (.int .u64 0) ∧ W.cell? ⟨w.heap.size, 1, none⟩ = some (.int .u64 0) ∧ W.frozen? ⟨w.heap.size, 0, none⟩ = false ∧ W.frozen? ⟨w.heap.size, 1, none⟩ = false from by
    have hb0 : Below W0.heap.size W0 W := b1.trans (hb.mono b1.size)
    exact ⟨(hb0.cell (p := ⟨w.heap.size, 0, none⟩) lR).trans rz.1, (hb0.cell (p := ⟨w.heap.size, 1, none⟩) lR).trans rz.2.1, (hb0.frozen (p := ⟨w.heap.size, 0, none⟩) lR).trans (rz.2.2 0), (hb0.frozen (p := ⟨w.heap.size, 1, none⟩) lR).trans (rz.2.2 1)⟩))
  unfold prO
  obtain ⟨S, hS⟩ : ∃ S, S = wdV g M tw 4 := ⟨_, rfl⟩
  rw [← hS] at s4 dbd CD CDec ⊢
  generalize dsV g M S = D at *
  generalize hE : Fl.dcE S D = E at *
  generalize Fl.dcP S D = P at *
  generalize Fl.dcA S D = Al at *
  obtain ⟨RO, hRO⟩ : ∃ RO, RO = pqV (if E = 0 ∧ P = true then some (wdV g M tw 0, if Al = true then wdV g M tw 2 else wdV g M tw 1) else none) := ⟨_, rfl⟩
  rw [← hRO]
  have HRO := Lib.hid hRO
  clear hRO
  have CDec2 := fun W => Lib.hid (CDec W)
  have HS := Lib.hid hS
  have HW0 := Lib.hid hW0
  have HW1 := Lib.hid hW1
  have e01 := Lib.hid s01
  have HLR := Lib.hid (show w.heap.size < W1.heap.size by omega)
  clear hT hbd s4 dbd b0 b1 hT1 cT cX lT lX rz lR CDec hs hW0 hW1 s01 hE hS
  go_enter Try.func45, Try.ntmps45
  go_wp2_with fail
  rw [← HW0.out]
  refine CR.out.mono ?_
  rintro r1 V1 ⟨rfl, e⟩
  rw [← HW1.out] at e
  obtain rfl := e.symm
  go_wp2_with fail
  refine (CW _ 4 (Below.refl _ _)).out.mono ?_
  rintro r1 V2 ⟨rfl, hb2⟩
  rw [← HS.out]
  have HB2 := Lib.hid hb2
  clear hb2
  go_wp2_with fail
  refine (CD _ HB2.out).out.mono ?_
  rintro r1 V3 ⟨rfl, hb3⟩
  have HB2' := Lib.hid (HB2.out.trans (hb3.mono HB2.out.size))
  clear hb3
  go_wp2_with fail
  refine (CW _ 4 HB2'.out).out.mono ?_
  rintro r1 V4 ⟨rfl, hb4⟩
  rw [← HS.out]
  have HB3 := Lib.hid (HB2'.out.trans (hb4.mono HB2'.out.size))
  clear hb4
  go_wp2_with fail
  refine (CDec2 _).out.mono ?_
  rintro r1 V4' ⟨rfl, e⟩
  obtain rfl := e
  clear CDec2 CD HB2 HB2' CR
  by_cases hE : E = 0
  · have e0 : (E != 0) = false := by simp [hE]
    cases P with
    | true =>
      have HE0 := Lib.hid hE
      clear hE
      cases Al with
      | true =>
        have HO := Lib.hid (show RO = .tuple #[.agg #[.int .u64 (wdV g M tw 0), .int .u64 (wdV g M tw 2)], .bool true] by rw [HRO.out, if_pos ⟨HE0.out, rfl⟩, if_pos rfl]; rfl)
        have C0 := CW _ 0 HB3.out
        go_wp2_with fail
        refine C0.out.mono ?_
        rintro r1 V5 ⟨rfl, hb5⟩
        have HB5 := Lib.hid (HB3.out.trans (hb5.mono HB3.out.size))
        have C1 := CW _ 1 HB5.out
        clear hb5 C0
        go_wp2_with fail
        refine C1.out.mono ?_
        rintro r1 V6 ⟨rfl, hb6⟩
        have HB6 := Lib.hid (HB5.out.trans (hb6.mono HB5.out.size))
        clear hb6 C1
        obtain ⟨V7, hV7⟩ : ∃ V, V = V6.alloc (.cells #[.int .u64 (wdV g M tw 0), .int .u64 (wdV g M tw 1)] 38) := ⟨_, rfl⟩
        have b67 : Below V6.heap.size V6 V7 := by rw [hV7]; exact bel_alloc (Below.refl _ _) _
        have HB7 := Lib.hid (HB6.out.trans (b67.mono HB6.out.size))
        have p0 : V7.cell? ⟨V6.heap.size, 0, none⟩ = some (.int .u64 (wdV g M tw 0)) := by rw [hV7]; exact World.cell?_alloc_new _ _ _ _
        have p1 : V7.cell? ⟨V6.heap.size, 1, none⟩ = some (.int .u64 (wdV g M tw 1)) := by rw [hV7]; exact World.cell?_alloc_new _ _ _ _
        have pf : ∀ j, V7.frozen? ⟨V6.heap.size, j, none⟩ = false := fun j => by
          have hh : V7.heap[V6.heap.size]? = some (.cells #[.int .u64 (wdV g M tw 0), .int .u64 (wdV g M tw 1)] 38 (0, 0)) := by rw [hV7]; exact heap_alloc_new V6 _
          simp [World.frozen?, hh]
        have lp : V6.heap.size < V7.heap.size := World.block_lt_of_cell? _ _ p0
        have C2 := CW _ 2 HB7.out
        have HV7 := Lib.hid hV7
        have HL6 := Lib.hid (show W1.heap.size ≤ V6.heap.size from HB6.out.size)
        clear hV7 b67
        go_wp2_with fail
        rw [← HV7.out]
        refine C2.out.mono ?_
        rintro r1 V8 ⟨rfl, hb8⟩
        have HB8 := Lib.hid (HB7.out.trans (hb8.mono HB7.out.size))
        have q0 := (hb8.cell (p := ⟨V6.heap.size, 0, none⟩) lp).trans p0
        have q1 := (hb8.cell (p := ⟨V6.heap.size, 1, none⟩) lp).trans p1
        have qf := (hb8.frozen (p := ⟨V6.heap.size, 1, none⟩) lp).trans (pf 1)
        obtain ⟨z0, z1, z2, z3⟩ := HR.out _ HB8.out
        have hne : w.heap.size ≠ V6.heap.size := by have := HL6.out; have := HLR.out; omega
        obtain ⟨V9, hV9⟩ : ∃ V, V = V8.setCell ⟨V6.heap.size, 1, none⟩ (.int .u64 (wdV g M tw 2)) := ⟨_, rfl⟩
        have b89 : Below W1.heap.size W1 V9 := by rw [hV9]; exact HB8.out.setCell (p := ⟨V6.heap.size, 1, none⟩) HL6.out _
        have r0 : V9.cell? ⟨V6.heap.size, 0, none⟩ = some (.int .u64 (wdV g M tw 0)) := by rw [hV9, Ly.cell_set (by omega)]; exact q0
        have r1' : V9.cell? ⟨V6.heap.size, 1, none⟩ = some (.int .u64 (wdV g M tw 2)) := by rw [hV9]; exact World.cell?_setCell_same _ _ _ q1
        have y0 : V9.cell? ⟨w.heap.size, 0, none⟩ = some (.int .u64 0) := (HR.out _ b89).1
        have y1 : V9.cell? ⟨w.heap.size, 1, none⟩ = some (.int .u64 0) := (HR.out _ b89).2.1
        have y2 : V9.frozen? ⟨w.heap.size, 0, none⟩ = false := (HR.out _ b89).2.2.1
        have y3 : V9.frozen? ⟨w.heap.size, 1, none⟩ = false := (HR.out _ b89).2.2.2
        have HB9 := Lib.hid b89
        have HV9 := Lib.hid hV9
        clear hb8 p0 p1 pf q0 z0 z1 z2 z3 hV9 b89 HR CW C2
        go_upto_region 11 with fail
        rw [← HV9.out]
        clear q1 qf
        go_wp2
        refine bodyPost_ret (v := .tuple #[.agg #[.int .u64 (wdV g M tw 0), .int .u64 (wdV g M tw 2)], .bool true]) (by simp [results, Try.results45, go_sem, y0, y1]) rfl ⟨by rw [HO.out], ?_⟩
        exact ((HBW.out.trans (HB9.out.mono HBW.out.size)).setCell (p := ⟨w.heap.size, 0, none⟩) (Nat.le_refl _) _).setCell (p := ⟨w.heap.size, 1, none⟩) (Nat.le_refl _) _
      | false =>
        have HO := Lib.hid (show RO = .tuple #[.agg #[.int .u64 (wdV g M tw 0), .int .u64 (wdV g M tw 1)], .bool true] by rw [HRO.out, if_pos ⟨HE0.out, rfl⟩, if_neg (by decide)]; rfl)
        have C0 := CW _ 0 HB3.out
        go_wp2_with fail
        refine C0.out.mono ?_
        rintro r1 V5 ⟨rfl, hb5⟩
        have HB5 := Lib.hid (HB3.out.trans (hb5.mono HB3.out.size))
        have C1 := CW _ 1 HB5.out
        clear hb5 C0
        go_wp2_with fail
        refine C1.out.mono ?_
        rintro r1 V6 ⟨rfl, hb6⟩
        have HB6 := Lib.hid (HB5.out.trans (hb6.mono HB5.out.size))
        clear hb6 C1
        obtain ⟨z0, z1, z2, z3⟩ := HR.out _ (HB6.out.trans ((bel_alloc (Below.refl V6.heap.size V6) (.cells #[.int .u64 (wdV g M tw 0), .int .u64 (wdV g M tw 1)] 38)).mono HB6.out.size))
        clear HR CW
        go_wp2
        refine bodyPost_ret (v := .tuple #[.agg #[.int .u64 (wdV g M tw 0), .int .u64 (wdV g M tw 1)], .bool true]) (by simp [results, Try.results45, go_sem, z0, z1]) rfl ⟨by rw [HO.out], ?_⟩
        exact ((HBW.out.trans ((HB6.out.trans ((bel_alloc (Below.refl V6.heap.size V6) _).mono HB6.out.size)).mono HBW.out.size)).setCell (p := ⟨w.heap.size, 0, none⟩) (Nat.le_refl _) _).setCell (p := ⟨w.heap.size, 1, none⟩) (Nat.le_refl _) _
    | false =>
      have HO := Lib.hid (show RO = .tuple #[.agg #[.int .u64 0, .int .u64 0], .bool false] by rw [HRO.out, if_neg (fun h => absurd h.2 (by decide))]; rfl)
      clear hE
      have z := HR.out _ HB3.out
      obtain ⟨z0, z1, z2, z3⟩ := z
      clear HR CW
      go_wp2
      refine bodyPost_ret (v := .tuple #[.agg #[.int .u64 0, .int .u64 0], .bool false]) (by simp [results, Try.results45, go_sem, z0, z1]) rfl ⟨by rw [HO.out], ?_⟩
      exact ((HBW.out.trans (HB3.out.mono HBW.out.size)).setCell (p := ⟨w.heap.size, 0, none⟩) (Nat.le_refl _) _).setCell (p := ⟨w.heap.size, 1, none⟩) (Nat.le_refl _) _
  · have e0 : (E != 0) = true := by simp [hE]
    have HO := Lib.hid (show RO = .tuple #[.agg #[.int .u64 0, .int .u64 0], .bool false] by rw [HRO.out, if_neg (fun h => hE h.1)]; rfl)
    clear hE
    have z := HR.out _ HB3.out
    obtain ⟨z0, z1, z2, z3⟩ := z
    clear HR CW
    go_wp2
    refine bodyPost_ret (v := .tuple #[.agg #[.int .u64 0, .int .u64 0], .bool false]) (by simp [results, Try.results45, go_sem, z0, z1]) rfl ⟨by rw [HO.out], ?_⟩
    exact ((HBW.out.trans (HB3.out.mono HBW.out.size)).setCell (p := ⟨w.heap.size, 0, none⟩) (Nat.le_refl _) _).setCell (p := ⟨w.heap.size, 1, none⟩) (Nat.le_refl _) _
end
end Tw
end Go.Proofs.Ytjcbjbhlclajnaa
