/- Package layout: Initial: contract of the translated code. Conditions: those of each lemma. -/
import Derived.Test.YtjcbjbhlclajnaaLyK
import Derived.Test.YtjcbjbhlclajnaaLyI
import Derived.Test.YtjcbjbhlclajnaaField
import Derived.Deep.RegionHeld3
import Derived.Deep.CutRange
import Derived.IntWalk
namespace Go.Proofs.Ytjcbjbhlclajnaa
open Go.RowKit Go.Sort
set_option linter.unusedVariables false
set_option linter.unusedSimpArgs false
set_option maxRecDepth 100000
namespace Ly
open Dm (RdK BdU dmB dmE dmN bel_alloc bel_trans cell_lt)
/-- the first N numbers of a function, as words -/
def rowU (P : Nat → Int) (N : Nat) : List Value := (List.range N).map fun a => .int .u64 (P a)
theorem rowU_set {P : Nat → Int} {N i : Nat} (v : Int) : (rowU P N).set i (.int .u64 v) = rowU (updN P i v) N := by
  refine List.ext_getElem (by simp [rowU]) fun t h1 h2 => ?_
  rw [List.getElem_set]
  by_cases e : i = t
  · subst e; simp [rowU, updN]
  · simp [rowU, updN, e, Ne.symm e]
theorem rowU_ini (g : Ge) : rowU (st g 6 (tot g.t 6)) (pW g) = (ini g).map (Value.int .u64) := by
  simp [rowU, ini]
theorem madeU_flat (n : Nat) : (madeCells (Value.int .u64 0).cells (n * 1)).toList = rowU (fun _ => 0) n := by
  refine List.ext_getElem (by simp [madeCells, rowU]) fun t h1 h2 => ?_
  simp [madeCells, rowU, Value.cells, Nat.mod_one]
theorem info_u : ∃ i0, Try.prog.info? 27 = some i0 ∧ i0.zero = some (Value.int .u64 0) ∧ i0.size = 1 ∧ i0.bytes = 8 := by
  have h : (Try.prog.info? 27).map (fun i => (i.zero, i.size, i.bytes)) = some (some (Value.int .u64 0), 1, 8) := by kernel_rfl
  cases e : Try.prog.info? 27 with
  | none => rw [e] at h; cases h
  | some i => rw [e] at h; simp at h; exact ⟨i, rfl, h.1, h.2.1, h.2.2⟩
/-- the row of words while it is laid -/
def Rn (W : World) (B N : Nat) (P : Nat → Int) : Prop := W.ownsRow B 27 1 (.slice (some ⟨B, 0, none⟩) N N) N (rowU P N)
theorem Rn.below {W W' : World} {B N : Nat} {P : Nat → Int} (h : Rn W B N P) (hb : Below W.heap.size W W') : Rn W' B N P := KU.own_keep h fun g hg => hb.block g (World.ownsRow.lt h g hg).2
theorem Rn.cell {W : World} {B N : Nat} {P : Nat → Int} (h : Rn W B N P) {i : Nat} (hi : i < N) : W.cell? ⟨B, i, none⟩ = some (.int .u64 (P i)) ∧ W.frozen? ⟨B, i, none⟩ = false := by
  refine ⟨?_, World.ownsRow.frozenAt h i⟩
  rw [World.ownsRow.cellAt h _ (by omega)]
  simp [rowU, hi]
theorem Rn.set {W : World} {B N : Nat} {P : Nat → Int} (h : Rn W B N P) (i : Nat) (v : Int) : Rn (W.setCell ⟨B, i, none⟩ (.int .u64 v)) B N (updN P i v) := by
  unfold Rn
  rw [← rowU_set]
  exact (World.ownsRow.stored h i _).1
set_option maxRecDepth 100000 in
set_option maxHeartbeats 4000000 in
theorem initial_any {w : World} {b : Nat} {f : Cf} {l : List Int} {g : Ge} (h : LyAt w b f l g) (ok : g.ok) : Calls Try.prog 35 #[.pointer (some ⟨b, 0, none⟩)] w fun e w' =>
    e = .returned (.slice (some ⟨w.heap.size, 0, none⟩) (pW g) (pW g)) ∧ w'.ownsRow w.heap.size 27 1 (.slice (some ⟨w.heap.size, 0, none⟩) (pW g) (pW g)) (pW g) ((ini g).map (Value.int .u64)) ∧ Below w.heap.size w w' := by
  have HINI := Lib.hid (rowU_ini g)
  obtain ⟨GI, hGI⟩ : ∃ GI : Nat → Nat, GI = fun i => 1 + tot g.t i := ⟨_, rfl⟩
  obtain ⟨GN, hGN⟩ : ∃ GN : Nat → Nat, GN = fun i => g.t i := ⟨_, rfl⟩
  obtain ⟨GS, hGS⟩ : ∃ GS : Nat → Nat, GS = fun i => 6 + i := ⟨_, rfl⟩
  obtain ⟨GF, hGF⟩ : ∃ GF : Nat → Nat, GF = fun i => pT g + wds g.t i := ⟨_, rfl⟩
  have HBn := Lib.hid (show ∀ i, i < 6 → GI i + GN i ≤ 1025 from fun i hi => by have := tot_le g.t (i := i) (j := 6) hi; have := ok.tt; rw [hGI, hGN]; simp only; omega)
  have lt := h.lt
  have RG := Lib.hid (tws_range h)
  have HP := Lib.hid (show ∀ j, j < 6 → (tws g).toArray.extract (j * 5) (j * 5 + 5) = #[.int .u8 9, .int .i64 (GI j : Nat), .int .i64 (GN j : Nat), .int .i64 (GS j : Nat), .int .i64 (GF j : Nat)] from fun j hj => by rw [hGI, hGN, hGS, hGF]; exact tws_pick g hj)
  have HLN := Lib.hid (tws_len g)
  have c5 : w.cell? ⟨b, 21, none⟩ = some (.int .i64 (pP g : Nat)) := h.pl 5 (by omega)
  have c9 : w.cell? ⟨b, 25, none⟩ = some (.int .i64 (pW g : Nat)) := h.pl 9 (by omega)
  have e0 : w.cell? ⟨b, 27, none⟩ = some (.int .u8 7) := h.lk 0 _ rfl
  have e1 : w.cell? ⟨b, 28, none⟩ = some (.int .i64 1) := h.lk 1 _ rfl
  have e2 : w.cell? ⟨b, 29, none⟩ = some (.int .i64 (tot g.t 6 : Nat)) := h.lk 2 _ rfl
  have e3 : w.cell? ⟨b, 30, none⟩ = some (.int .i64 1) := h.lk 3 _ rfl
  have e4 : w.cell? ⟨b, 31, none⟩ = some (.int .i64 (pK g : Nat)) := h.lk 4 _ rfl
  -- the mathematics
  have hpk : pK g = pP g + 6 := by unfold pK pP; omega
  have hpw : pK g + tot g.t 6 ≤ pW g := by unfold pW pT pK; omega
  have hpb : pW g ≤ 100000 := by
    have := wds_tot g.t 6 (Nat.le_refl _)
    have := ok.s2; have := ok.e2; have := ok.l2; have := ok.d2; have := ok.tt
    unfold pW pT; omega
  have htt := ok.tt
  have MP := Lib.hid (show ∀ j m, j < 6 → 0 < GN j → updN (st g j m) (pP g + j) ((GI j : Nat) : Int) = st g (j + 1) m from fun j m hj h0 => by
    have := st_pool g (m := m) hj
    rw [hGN] at h0
    rw [po, if_pos h0] at this
    rw [hGI]; exact this)
  have MS := Lib.hid (show ∀ j, GN j = 0 → st g j (tot g.t j) = st g (j + 1) (tot g.t (j + 1)) from fun j h0 => by
    rw [hGN] at h0
    have h0 : g.t j = 0 := h0
    rw [st_skip g _ h0]
    have : tot g.t (j + 1) = tot g.t j + g.t j := rfl
    rw [this, h0, Nat.add_zero])
  have ML := Lib.hid (show ∀ j n, j < 6 → n + 1 < GN j → updN (st g (j + 1) (tot g.t j + n)) (pK g + (tot g.t j + n)) ((GI j + n + 1 : Nat) : Int) = st g (j + 1) (tot g.t j + (n + 1)) from fun j n hj hn => by
    rw [hGN] at hn
    have h1 := tot_le g.t (i := j) (j := 6) hj
    have hn : n + 1 < g.t j := hn
    have := st_link g (j := j + 1) (m := tot g.t j + n) (by omega)
    rw [nx_in g hj (by omega) (by omega)] at this
    rw [hGI]
    show updN _ _ ((1 + tot g.t j + n + 1 : Nat) : Int) = _
    rw [show 1 + tot g.t j + n + 1 = tot g.t j + n + 2 by omega]; exact this)
  have ME := Lib.hid (show ∀ j n, j < 6 → n + 1 = GN j → st g (j + 1) (tot g.t j + n) = st g (j + 1) (tot g.t (j + 1)) from fun j n hj hn => by
    rw [hGN] at hn
    have hn : n + 1 = g.t j := hn
    have := st_none g (j := j + 1) (m := tot g.t j + n) (nx_last g hj (by omega) (by omega))
    rw [← this]
    have : tot g.t (j + 1) = tot g.t j + g.t j := rfl
    rw [this, ← hn]; congr 1)
  have HT := Lib.hid (show ∀ j, GI j = 1 + tot g.t j from fun j => by rw [hGI])
  have HTL := Lib.hid (show ∀ j, j < 6 → tot g.t j + GN j ≤ tot g.t 6 from fun j hj => by rw [hGN]; exact tot_le g.t hj)
  have MZ := Lib.hid (st_zero g)
  clear h ok hGI hGN hGS hGF
  generalize tws g = cs at *
  obtain ⟨PP, hPP⟩ : ∃ PP, pP g = PP := ⟨_, rfl⟩
  obtain ⟨KPP, hKP⟩ : ∃ KPP, pK g = KPP := ⟨_, rfl⟩
  obtain ⟨N, hN⟩ : ∃ N, pW g = N := ⟨_, rfl⟩
  obtain ⟨TT, hTT⟩ : ∃ TT, tot g.t 6 = TT := ⟨_, rfl⟩
  rw [hPP] at c5 MP hpk
  rw [hKP] at e4 hpk hpw ML
  rw [hN] at c9 hpw hpb HINI ⊢
  rw [hTT] at e2 hpw htt HTL HINI
  have hTT := Lib.hid hTT
  clear hPP hKP hN
  have hpk1 : PP + 6 ≤ KPP := by omega
  clear hpk
  have HC := Lib.hid (And.intro c5 (And.intro e0 (And.intro e1 (And.intro e2 (And.intro e3 e4)))))
  clear c5 e0 e1 e2 e3 e4
  have hN1 : (N : Int) ≤ 100000 := by omega
  obtain ⟨i0, hi, hz0, hz1, hz2⟩ := info_u
  go_enter Try.func35, Try.ntmps35
  go_upto_region 4 with (at_make; refine wpList_make_full _ rfl _ _ 43 rfl w.heap.size 27 i0 (.int .u64 0) 1 Try.underlying43 hi hz0 hz1 .i64 .i64 _ _ N rfl rfl rfl rfl (by rw [hz2]; omega) (by unfold maxLen; omega) (Nat.le_refl _) ?_; intro w1 hown hgrow)
  rw [madeU_flat] at hown
  have bw1 : Below w.heap.size w w1 := (Below.refl _ w).grown hgrow (Nat.le_refl _) fun g h => by cases h
  have OW1 := Lib.hid (show Rn w1 w.heap.size N (fun _ => 0) from hown)
  have RG1 := Lib.hid (show w1.rangeAt b 37 cs from fun j v hj => (bw1.cell (p := ⟨b, 37 + j, none⟩) lt).trans (RG.out j v hj))
  have BW1 := Lib.hid bw1
  clear hown hgrow bw1 hi hz0 hz1 hz2 RG c9
  go_step
  iterate 3 (go_step; go_simp; rename_i hK; refine hK _ _ ?_; clear hK)
  go_step
  refine wp_load_mid 139 (.tmp 17) rfl b 37 rfl cs _ RG1.out Try.underlying139 rfl (by rw [HLN.out]; exact sz_tws) ?_
  clear RG1
  go_wp2_with fail
  go_loopw [19] (fun i wr => ∃ j : Nat, j ≤ 6 ∧ i = .int .i64 j ∧ Rn wr w.heap.size N (st g j (tot g.t j)) ∧ Below w.heap.size w wr) (fun i _ => (6 - intOf i).toNat)
  case atStart => exact ⟨0, Nat.zero_le _, rfl, by have := OW1.out; rw [← MZ.out] at this; exact this, BW1.out⟩
  case round =>
    clear OW1 BW1 MZ
    obtain ⟨j, hj, rfl, ow, bel⟩ := hrel
    have OW := Lib.hid ow
    have BEL := Lib.hid bel
    have hszr := (World.ownsRow.lt ow w.heap.size rfl).2
    clear ow bel
    by_cases h6 : j < 6
    · have d0 : decide ((j : Int) < 6) = true := decide_eq_true (by omega)
      have hV := fun (W : World) => (index_grp (cs := cs.toArray) h6 W).trans (by rw [HP.out j h6])
      have hbn := HBn.out j h6
      have hti := HT.out j
      have htl := HTL.out j h6
      have MPj := Lib.hid (fun m => MP.out j m h6)
      have MLj := Lib.hid (fun n => ML.out j n h6)
      have MEj := Lib.hid (fun n => ME.out j n h6)
      have MSj := Lib.hid (MS.out j)
      obtain ⟨I, hI⟩ : ∃ I, GI j = I := ⟨_, rfl⟩
      obtain ⟨K, hK⟩ : ∃ K, GN j = K := ⟨_, rfl⟩
      obtain ⟨S, hS⟩ : ∃ S, GS j = S := ⟨_, rfl⟩
      obtain ⟨F, hF⟩ : ∃ F, GF j = F := ⟨_, rfl⟩
      rw [hI, hK, hS, hF] at hV
      rw [hI, hK] at hbn
      rw [hI] at hti
      rw [hK] at htl
      rw [hI, hK] at MPj
      rw [hI, hK] at MLj
      rw [hK] at MEj
      rw [hK] at MSj
      obtain ⟨T, hT⟩ : ∃ T, tot g.t j = T := ⟨_, rfl⟩
      rw [hT] at hti htl MLj MEj MSj OW
      have HTI := Lib.hid hti
      clear hI hK hS hF hT MP ML ME MS HBn HT HTL HP hti
      rcases Nat.eq_zero_or_pos K with hK0 | hK0
      · subst hK0
        go_wp2
        go_roundw
        case rel => exact ⟨j + 1, by omega, by go_num, by rw [← MSj.out rfl]; exact OW.out.below (bel_alloc (Below.refl _ _) _), bel_alloc BEL.out _⟩
        case measure => simp [intOf]; omega
      · have d1 : ((K : Int) == 0) = false := by simp; omega
        have BA := Lib.hid (bel_alloc (Below.refl wr.heap.size wr) (.cells #[.int .u8 9, .int .i64 (I : Nat), .int .i64 (K : Nat), .int .i64 (S : Nat), .int .i64 (F : Nat)] 138))
        have NB := Lib.hid (heap_new wr (.cells #[.int .u8 9, .int .i64 (I : Nat), .int .i64 (K : Nat), .int .i64 (S : Nat), .int .i64 (F : Nat)] 138))
        have HSZ := Lib.hid (World.size_alloc wr (.cells #[.int .u8 9, .int .i64 (I : Nat), .int .i64 (K : Nat), .int .i64 (S : Nat), .int .i64 (F : Nat)] 138))
        go_wp2_with fail
        generalize wr.alloc (.cells #[.int .u8 9, .int .i64 (I : Nat), .int .i64 (K : Nat), .int .i64 (S : Nat), .int .i64 (F : Nat)] 138) = W0 at *
        have BW0 := Lib.hid (show Below w.heap.size w W0 from BEL.out.trans (BA.out.mono BEL.out.size))
        have OW0 := Lib.hid (OW.out.below BA.out)
        clear OW BEL BA
        generalize wr.heap.size = BX at *
        have c5 := (BW0.out.cell (p := ⟨b, 21, none⟩) lt).trans HC.out.1
        have r1 := cell_of (j := 1) NB.out rfl
        obtain ⟨k0, f0⟩ := OW0.out.cell (i := PP + j) (by omega)
        obtain ⟨z, hz⟩ : ∃ z, st g j T (PP + j) = z := ⟨_, rfl⟩
        rw [hz] at k0
        have TOP := fun (W : World) => Lib.hid (show Calls Try.prog 70 #[.int .u64 0, .int .i64 (I : Nat)] W fun e w' => e = .returned (.tuple #[.int .u64 (I : Nat), .int .i64 0]) ∧ W = w' from by
          have := Fl.top_any 0 (I : Int) (by omega) (by omega) W
          have ht : Fl.topOk 0 (I : Int) = true := decide_eq_true ⟨by omega, by omega, by omega⟩
          rw [Fl.topV, Fl.topE, if_pos ht, if_pos ht] at this
          rw [show (I : Int) + 65536 * 0 = (I : Int) by omega] at this
          exact this)
        have MP1 := Lib.hid (MPj.out T hK0)
        have p1 : (PP : Int) + j < N := by omega
        have p2 : (PP : Int) ≤ 100000 := by omega
        have q1 : IntKind.i64.wrap ((PP : Int) + j) = (PP : Int) + j := IntWalk.i64_in _ (by omega)
        have q2 : (0 : Int) ≤ (PP : Int) + j := by omega
        have q3 : ((PP : Int) + j).toNat = PP + j := by omega
        have q4 : ¬ ((PP : Int) + j < 0) := by omega
        have s5 := (World.cell?_of_block (a := ⟨b, 21, none⟩) (Below.heap_setCell W0 ⟨w.heap.size, PP + j, none⟩ (.int .u64 (I : Nat)) b (by show b ≠ w.heap.size; omega))).trans c5
        have sr1 := (World.cell?_of_block (a := ⟨BX, 1, none⟩) (Below.heap_setCell W0 ⟨w.heap.size, PP + j, none⟩ (.int .u64 (I : Nat)) BX (by show BX ≠ w.heap.size; omega))).trans r1
        have OW1 := Lib.hid (OW0.out.set (PP + j) (I : Nat))
        rw [MP1.out] at OW1
        have BW1 := Lib.hid (BW0.out.setCell (p := ⟨w.heap.size, PP + j, none⟩) (Nat.le_refl _) (.int .u64 (I : Nat)))
        have NB1 := Lib.hid ((Below.heap_setCell W0 ⟨w.heap.size, PP + j, none⟩ (.int .u64 (I : Nat)) BX (by show BX ≠ w.heap.size; omega)).trans NB.out)
        clear hz MPj
        go_cut [] from 26 to 40 (fun wx => Rn wx w.heap.size N (st g (j + 1) T) ∧ Below w.heap.size w wx ∧ wx.heap[BX]? = some (.cells #[.int .u8 9, .int .i64 (I : Nat), .int .i64 (K : Nat), .int .i64 (S : Nat), .int .i64 (F : Nat)] 138))
        case first =>
          go_region_held3 (fun w' => w'.cell? ⟨b, 21, none⟩ = some (.int .i64 (PP : Nat)) ∧ w'.cell? ⟨BX, 1, none⟩ = some (.int .i64 (I : Nat))) (first | exact ⟨c5, r1⟩ | exact ⟨s5, sr1⟩) ((go_at_call 70; refine (TOP _).out.mono ?_; rintro r wd ⟨rfl, rfl⟩))
          all_goals (go_wp2_with fail)
          all_goals (go_meet)
          all_goals (exact ⟨OW1.out.below (Om_drew (Below.refl _ _)), Om_drew BW1.out, NB1.out⟩)
        case rest =>
          obtain ⟨ow, bel, nb⟩ := hcut
          have OW2 := Lib.hid ow
          have BW2 := Lib.hid bel
          have NB2 := Lib.hid nb
          have r1 := cell_of (j := 1) nb rfl
          clear ow bel nb c5 r1 k0 f0 s5 sr1 OW1 BW1 NB1 OW0 BW0 NB MP1 TOP MSj
          have r1 := cell_of (j := 1) NB2.out rfl
          go_wp2_with fail
          go_loopw [6] (fun i wy => ∃ n : Nat, n < K ∧ i = .int .i64 ((I + n : Nat) : Int) ∧ Rn wy w.heap.size N (st g (j + 1) (T + n)) ∧ Below w.heap.size w wy ∧ wy.heap[BX]? = some (.cells #[.int .u8 9, .int .i64 (I : Nat), .int .i64 (K : Nat), .int .i64 (S : Nat), .int .i64 (F : Nat)] 138)) (fun i _ => (I + K - intOf i).toNat)
          case atStart => exact ⟨0, hK0, rfl, OW2.out, BW2.out, NB2.out⟩
          case round =>
            clear OW2 BW2 NB2 r1
            obtain ⟨n, hn, rfl, ow, bel, nb⟩ := hrel
            have r0 := cell_of (j := 0) nb rfl
            have r1 := cell_of (j := 1) nb rfl
            have r2 := cell_of (j := 2) nb rfl
            have r3 := cell_of (j := 3) nb rfl
            have r4 := cell_of (j := 4) nb rfl
            have OW := Lib.hid ow
            have BEL := Lib.hid bel
            have NBX := Lib.hid nb
            have htw1 : I + n ≤ 1025 := by omega
            have HTW := Lib.hid (show I + n = 1 + (T + n) by have := HTI.out; omega)
            have hmx : IntKind.i64.wrap (((I + n : Nat) : Int) + 1) = ((I + n : Nat) : Int) + 1 := IntWalk.i64_in _ (by omega)
            by_cases hlt : n + 1 < K
            · have CH := fun (W : World) => Lib.hid (show Calls Try.prog 71 #[.agg #[.int .u8 9, .int .i64 (I : Nat), .int .i64 (K : Nat), .int .i64 (S : Nat), .int .i64 (F : Nat)], .int .i64 (((I + n : Nat) : Int) + 1)] W fun e w' => e = .returned (.bool true) ∧ Below W.heap.size W w' from by
                have := has_any 9 I K S F (((I + n : Nat) : Int) + 1) W (by omega)
                rw [decide_eq_true (show (I : Int) ≤ ((I + n : Nat) : Int) + 1 by omega), decide_eq_true (show ((I + n : Nat) : Int) + 1 < ((I + K : Nat) : Int) by omega)] at this
                exact this)
              have CA := fun (W : World) => Lib.hid (show Calls Try.prog 58 #[.agg #[.int .u8 7, .int .i64 1, .int .i64 (TT : Nat), .int .i64 1, .int .i64 (KPP : Nat)], .int .i64 ((I + n : Nat) : Int)] W fun e w' => e = .returned (.int .i64 ((KPP + (T + n) : Nat) : Int)) ∧ Below W.heap.size W w' from by
                have := at_any 7 1 TT 1 KPP (T + n) W (by omega) (by omega) (by omega)
                rw [← HTW.out, Nat.mul_one] at this
                exact this)
              have MLn := Lib.hid (MLj.out n hlt)
              have hix : KPP + (T + n) < N := by omega
              obtain ⟨ix, hixe⟩ : ∃ ix, KPP + (T + n) = ix := ⟨_, rfl⟩
              rw [hixe] at CA MLn hix
              obtain ⟨tw, htwe⟩ : ∃ tw, I + n = tw := ⟨_, rfl⟩
              have HTE := Lib.hid htwe
              rw [htwe] at CH CA MLn hmx htw1 ⊢
              have hu : IntKind.u64.wrap ((tw : Int) + 1) = (tw : Int) + 1 := by
                show ((tw : Int) + 1) % 18446744073709551616 = (tw : Int) + 1
                omega
              have t1 : (tw : Int) ≤ 1025 := by omega
              have t2 : (0 : Int) ≤ (tw : Int) + 1 := by omega
              have i1 : (ix : Int) < N := by omega
              clear ow bel nb hixe htwe HTW
              go_wp2_with fail
              refine (CH _).out.mono ?_
              rintro r w2 ⟨rfl, b2⟩
              have OW2 := Lib.hid (OW.out.below b2)
              have BW2 := Lib.hid (BEL.out.trans (b2.mono BEL.out.size))
              have NB2 := Lib.hid ((b2.block BX (World.block_lt_of_cell? _ _ r0)).trans NBX.out)
              have e0 := (BW2.out.cell (p := ⟨b, 27, none⟩) lt).trans HC.out.2.1
              have e1 := (BW2.out.cell (p := ⟨b, 28, none⟩) lt).trans HC.out.2.2.1
              have e2 := (BW2.out.cell (p := ⟨b, 29, none⟩) lt).trans HC.out.2.2.2.1
              have e3 := (BW2.out.cell (p := ⟨b, 30, none⟩) lt).trans HC.out.2.2.2.2.1
              have e4 := (BW2.out.cell (p := ⟨b, 31, none⟩) lt).trans HC.out.2.2.2.2.2
              clear b2 OW BEL NBX r0 r1 r2 r3 r4
              go_wp2_with fail
              refine (CA _).out.mono ?_
              rintro r w3 ⟨rfl, b3⟩
              have OW3 := Lib.hid (OW2.out.below b3)
              have BW3 := Lib.hid (BW2.out.trans (b3.mono BW2.out.size))
              have NB3 := Lib.hid ((b3.block BX (by have := cell_of (j := 0) NB2.out rfl; exact World.block_lt_of_cell? _ _ this)).trans NB2.out)
              obtain ⟨k0, f0⟩ := OW3.out.cell hix
              obtain ⟨z, hz⟩ : ∃ z, st g (j + 1) (T + n) ix = z := ⟨_, rfl⟩
              rw [hz] at k0
              clear hz b3 OW2 BW2 NB2 e0 e1 e2 e3 e4
              go_wp2_with fail
              go_roundw
              case rel =>
                refine ⟨n + 1, hlt, ?_, ?_, BW3.out.setCell (p := ⟨w.heap.size, ix, none⟩) (Nat.le_refl _) _, ?_⟩
                · rw [show I + (n + 1) = tw + 1 by have := HTE.out; omega]; go_num
                · rw [← MLn.out]; exact OW3.out.set ix _
                · exact (Below.heap_setCell w3 ⟨w.heap.size, ix, none⟩ _ BX (by show BX ≠ w.heap.size; omega)).trans NB3.out
              case measure => have := HTE.out; simp [intOf]; omega
            · have CH := fun (W : World) => Lib.hid (show Calls Try.prog 71 #[.agg #[.int .u8 9, .int .i64 (I : Nat), .int .i64 (K : Nat), .int .i64 (S : Nat), .int .i64 (F : Nat)], .int .i64 (((I + n : Nat) : Int) + 1)] W fun e w' => e = .returned (.bool false) ∧ Below W.heap.size W w' from by
                have := has_any 9 I K S F (((I + n : Nat) : Int) + 1) W (by omega)
                rw [decide_eq_false (show ¬ ((I + n : Nat) : Int) + 1 < ((I + K : Nat) : Int) by omega), Bool.and_false] at this
                exact this)
              have MEn := Lib.hid (MEj.out n (by omega))
              obtain ⟨tw, htwe⟩ : ∃ tw, I + n = tw := ⟨_, rfl⟩
              rw [htwe] at CH hmx htw1 ⊢
              have t1 : (tw : Int) ≤ 1025 := by omega
              have t2 : (0 : Int) ≤ (tw : Int) + 1 := by omega
              clear ow bel nb htwe HTW
              go_wp2_with fail
              refine (CH _).out.mono ?_
              rintro r w2 ⟨rfl, b2⟩
              have OW2 := Lib.hid (OW.out.below b2)
              have BW2 := Lib.hid (BEL.out.trans (b2.mono BEL.out.size))
              rw [MEn.out] at OW2
              clear b2 OW BEL NBX r0 r1 r2 r3 r4
              go_wp2_with fail
              go_roundw
              case rel => exact ⟨j + 1, by omega, by go_num, OW2.out, BW2.out⟩
              case measure => simp [intOf]; omega
    · obtain rfl : j = 6 := by omega
      have d0 : decide (((6 : Nat) : Int) < 6) = false := by decide
      rw [hTT.out] at OW
      go_wp2
      go_ret
      refine ⟨rfl, ?_, BEL.out⟩
      rw [← HINI.out]
      exact OW.out
end Ly
end Go.Proofs.Ytjcbjbhlclajnaa
