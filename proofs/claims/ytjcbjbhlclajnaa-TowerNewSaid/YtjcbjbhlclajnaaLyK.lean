/- Package layout: Places, Towers, peers, Height, Word, node, Next, Latch, Of: contracts of the translated code. No conditions beside those of each lemma. -/
import Derived.Test.YtjcbjbhlclajnaaLyJ
namespace Go.Proofs.Ytjcbjbhlclajnaa
open Go.RowKit Go.Sort
set_option linter.unusedVariables false
set_option linter.unusedSimpArgs false
set_option maxRecDepth 100000
namespace Ly
open Dm (RdK BdU dmB dmE dmN bel_alloc bel_trans cell_lt)
/-- an address, or ErrRange -/
def resp (o : Option Nat) : Value := match o with | some a => .tuple #[.int .i64 (a : Nat), .int .i64 0] | none => .tuple #[.int .i64 0, .int .i64 3]
/-- the group of the towers of a height, as a value -/
def txV (g : Ge) (i : Nat) : Value := .agg #[.int .u8 9, .int .i64 ((1 + tot g.t i : Nat) : Int), .int .i64 (g.t i : Nat), .int .i64 ((6 + i : Nat) : Int), .int .i64 ((pT g + wds g.t i : Nat) : Int)]
/-- x is a tower of the height i + 1 -/
def InT (g : Ge) (x : Int) (i : Nat) : Prop := ((1 + tot g.t i : Nat) : Int) ≤ x ∧ x < ((1 + tot g.t i + g.t i : Nat) : Int)
theorem towers_any {w : World} {b : Nat} {f : Cf} {l : List Int} {g : Ge} (h : LyAt w b f l g) : Calls Try.prog 40 #[.pointer (some ⟨b, 0, none⟩)] w fun e w' => e = .returned (.int .i64 (tot g.t 6 : Nat)) ∧ w' = w := by
  have c2 : w.cell? ⟨b, 29, none⟩ = some (.int .i64 (tot g.t 6 : Nat)) := h.lk 2 _ rfl
  clear h
  go_enter Try.func40, Try.ntmps40
  go_wp2
  go_ret
  exact ⟨rfl, rfl⟩
def plV (g : Ge) : Value := .agg #[.int .i64 (plN g 0 : Nat), .int .i64 (plN g 1 : Nat), .int .i64 (plN g 2 : Nat), .int .i64 (plN g 3 : Nat), .int .i64 (plN g 4 : Nat), .int .i64 (plN g 5 : Nat), .int .i64 (plN g 6 : Nat), .int .i64 (plN g 7 : Nat), .int .i64 (plN g 8 : Nat), .int .i64 (plN g 9 : Nat)]
theorem places_any {w : World} {b : Nat} {f : Cf} {l : List Int} {g : Ge} (h : LyAt w b f l g) : Calls Try.prog 24 #[.pointer (some ⟨b, 0, none⟩)] w fun e w' => e = .returned (plV g) ∧ Below w.heap.size w w' := by
  have c0 := h.pl 0 (by omega)
  have c1 := h.pl 1 (by omega)
  have c2 := h.pl 2 (by omega)
  have c3 := h.pl 3 (by omega)
  have c4 := h.pl 4 (by omega)
  have c5 := h.pl 5 (by omega)
  have c6 := h.pl 6 (by omega)
  have c7 := h.pl 7 (by omega)
  have c8 := h.pl 8 (by omega)
  have c9 := h.pl 9 (by omega)
  simp only [Nat.reduceAdd] at c0 c1 c2 c3 c4 c5 c6 c7 c8 c9
  have lt := h.lt
  clear h
  unfold plV
  generalize plN g 0 = p0 at *
  generalize plN g 1 = p1 at *
  generalize plN g 2 = p2 at *
  generalize plN g 3 = p3 at *
  generalize plN g 4 = p4 at *
  generalize plN g 5 = p5 at *
  generalize plN g 6 = p6 at *
  generalize plN g 7 = p7 at *
  generalize plN g 8 = p8 at *
  generalize plN g 9 = p9 at *
  go_enter Try.func24, Try.ntmps24
  go_wp2
  refine bodyPost_ret (v := .agg #[.int .i64 (p0 : Nat), .int .i64 (p1 : Nat), .int .i64 (p2 : Nat), .int .i64 (p3 : Nat), .int .i64 (p4 : Nat), .int .i64 (p5 : Nat), .int .i64 (p6 : Nat), .int .i64 (p7 : Nat), .int .i64 (p8 : Nat), .int .i64 (p9 : Nat)]) (by simp [results, Try.results24, go_sem]) rfl ⟨rfl, ?_⟩
  exact bel_alloc (Below.refl _ _) _
/-- the towers' array as it is loaded -/
def tws (g : Ge) : List Value := KG.flat ((List.range 6).map (tx g))
theorem tws_len (g : Ge) : (tws g).length = 30 := by rw [tws, KG.flat_len]; simp [KG]
theorem tws_range {w : World} {b : Nat} {f : Cf} {l : List Int} {g : Ge} (h : LyAt w b f l g) : w.rangeAt b 37 (tws g) := fun j v hj => by
  have hrd : KG.Rd w (some ⟨b, 37, none⟩) ((List.range 6).map (tx g)) := fun i x hi => by
    have hi6 : i < 6 := by have := (List.getElem?_eq_some_iff.1 hi).1; simpa using this
    rw [List.getElem?_map, List.getElem?_range hi6, Option.map_some] at hi
    injection hi with hi
    subst hi
    exact ⟨b, 37, rfl, h.tw i hi6⟩
  have := hrd.cells j v hj
  rw [addr_lit] at this
  exact this
theorem tws_pick (g : Ge) {j : Nat} (hj : j < 6) : (tws g).toArray.extract (j * 5) (j * 5 + 5) = #[.int .u8 9, .int .i64 ((1 + tot g.t j : Nat) : Int), .int .i64 (g.t j : Nat), .int .i64 ((6 + j : Nat) : Int), .int .i64 ((pT g + wds g.t j : Nat) : Int)] := by
  rcases (show j = 0 ∨ j = 1 ∨ j = 2 ∨ j = 3 ∨ j = 4 ∨ j = 5 by omega) with rfl | rfl | rfl | rfl | rfl | rfl <;> rfl
theorem sz_tws : (Try.prog.info? 139).map (·.size) = some 30 := by kernel_rfl
def PeersPost (g : Ge) (x : Int) (w : World) (e : Ending) (w' : World) : Prop :=
    ((∃ i, i < 6 ∧ InT g x i ∧ e = .returned (.tuple #[txV g i, .int .i64 0])) ∨ ((∀ i, i < 6 → ¬ InT g x i) ∧ e = .returned (.tuple #[.agg #[.int .u8 0, .int .i64 0, .int .i64 0, .int .i64 0, .int .i64 0], .int .i64 3]))) ∧ Below w.heap.size w w'
set_option maxRecDepth 100000 in
set_option maxHeartbeats 4000000 in
theorem peers_any {w : World} {b : Nat} {f : Cf} {l : List Int} {g : Ge} (h : LyAt w b f l g) (ok : g.ok) (x : Int) : Calls Try.prog 57 #[.pointer (some ⟨b, 0, none⟩), .int .i64 x] w (PeersPost g x w) := by
  obtain ⟨GI, hGI⟩ : ∃ GI : Nat → Nat, GI = fun i => 1 + tot g.t i := ⟨_, rfl⟩
  obtain ⟨GN, hGN⟩ : ∃ GN : Nat → Nat, GN = fun i => g.t i := ⟨_, rfl⟩
  obtain ⟨GS, hGS⟩ : ∃ GS : Nat → Nat, GS = fun i => 6 + i := ⟨_, rfl⟩
  obtain ⟨GF, hGF⟩ : ∃ GF : Nat → Nat, GF = fun i => pT g + wds g.t i := ⟨_, rfl⟩
  have HIn := Lib.hid (show ∀ i, InT g x i = (((GI i : Nat) : Int) ≤ x ∧ x < ((GI i + GN i : Nat) : Int)) from fun i => by rw [hGI, hGN]; rfl)
  have HTx := Lib.hid (show ∀ i, txV g i = .agg #[.int .u8 9, .int .i64 (GI i : Nat), .int .i64 (GN i : Nat), .int .i64 (GS i : Nat), .int .i64 (GF i : Nat)] from fun i => by rw [hGI, hGN, hGS, hGF]; rfl)
  have HBn := Lib.hid (show ∀ i, i < 6 → GI i + GN i ≤ 100000 from fun i hi => by have := tot_le g.t (i := i) (j := 6) hi; have := ok.tt; rw [hGI, hGN]; simp only; omega)
  have lt := h.lt
  have RG := Lib.hid (tws_range h)
  have HP := Lib.hid (show ∀ j, j < 6 → (tws g).toArray.extract (j * 5) (j * 5 + 5) = #[.int .u8 9, .int .i64 (GI j : Nat), .int .i64 (GN j : Nat), .int .i64 (GS j : Nat), .int .i64 (GF j : Nat)] from fun j hj => by rw [hGI, hGN, hGS, hGF]; exact tws_pick g hj)
  have HLN := Lib.hid (tws_len g)
  clear h ok hGI hGN hGS hGF
  generalize tws g = cs at *
  have RGA := Lib.hid (show (w.alloc (.cells #[.int .u8 0, .int .i64 0, .int .i64 0, .int .i64 0, .int .i64 0] 138)).rangeAt b 37 cs from fun j v hj => (World.cell?_alloc_lt w _ _ lt).trans (RG.out j v hj))
  go_enter Try.func57, Try.ntmps57
  go_upto_region 3 with fail
  go_step
  iterate 3 (go_step; go_simp; rename_i hK; refine hK _ _ ?_; clear hK)
  go_step
  refine wp_load_mid 139 (.tmp 13) rfl b 37 rfl cs _ RGA.out Try.underlying139 rfl (by rw [HLN.out]; exact sz_tws) ?_
  clear RGA
  go_wp2_with fail
  have BB := Lib.hid (Below.refl (w.heap.size + 1) (w.alloc (.cells #[.int .u8 0, .int .i64 0, .int .i64 0, .int .i64 0, .int .i64 0] 138)))
  have BW := Lib.hid (bel_alloc (Below.refl w.heap.size w) (.cells #[.int .u8 0, .int .i64 0, .int .i64 0, .int .i64 0, .int .i64 0] 138))
  have NB := Lib.hid (heap_new w (.cells #[.int .u8 0, .int .i64 0, .int .i64 0, .int .i64 0, .int .i64 0] 138))
  have HSZ := Lib.hid (World.size_alloc w (.cells #[.int .u8 0, .int .i64 0, .int .i64 0, .int .i64 0, .int .i64 0] 138))
  generalize w.alloc (.cells #[.int .u8 0, .int .i64 0, .int .i64 0, .int .i64 0, .int .i64 0] 138) = w1 at *
  go_loopw [15] (fun i wr => ∃ j : Nat, j ≤ 6 ∧ i = .int .i64 j ∧ (∀ k, k < j → ¬ InT g x k) ∧ Below (w.heap.size + 1) w1 wr) (fun i _ => (6 - intOf i).toNat)
  case atStart => exact ⟨0, Nat.zero_le _, rfl, fun k hk => by omega, BB.out⟩
  case round =>
    clear BB
    obtain ⟨j, hj, rfl, hno, bel⟩ := hrel
    have HNO := Lib.hid hno
    have BEL := Lib.hid bel
    have kr := (bel.block w.heap.size (by omega)).trans NB.out
    have r0 := cell_of (j := 0) kr rfl
    have r1 := cell_of (j := 1) kr rfl
    have r2 := cell_of (j := 2) kr rfl
    have r3 := cell_of (j := 3) kr rfl
    have r4 := cell_of (j := 4) kr rfl
    have fr : ∀ j, wr.frozen? ⟨w.heap.size, j, none⟩ = false := fun j => by simp [World.frozen?, kr]
    have BF := Lib.hid (show Below w.heap.size w wr from BW.out.trans (bel.mono (Nat.le_succ _)))
    have hsz : w.heap.size < wr.heap.size := by have := bel.size; rw [HSZ.out] at this; omega
    clear hno bel
    by_cases h6 : j < 6
    · have d0 : decide ((j : Int) < 6) = true := decide_eq_true (by omega)
      have hV := fun (W : World) => (index_grp (cs := cs.toArray) h6 W).trans (by rw [HP.out j h6])
      have CH := fun W => Lib.hid (has_any 9 (GI j) (GN j) (GS j) (GF j) x W (HBn.out j h6))
      have hI := HIn.out j
      by_cases hin : InT g x j
      · have hb : (decide (((GI j : Nat) : Int) ≤ x) && decide (x < ((GI j + GN j : Nat) : Int))) = true := by rw [hI] at hin; rw [decide_eq_true hin.1, decide_eq_true hin.2]; rfl
        rw [hb] at CH
        have HX := Lib.hid hin
        clear hI hin hb
        go_wp2_with fail
        refine (CH _).out.mono ?_
        rintro r w2 ⟨rfl, b2⟩
        have hs2 : (wr.alloc (.cells #[.int .u8 9, .int .i64 (GI j : Nat), .int .i64 (GN j : Nat), .int .i64 (GS j : Nat), .int .i64 (GF j : Nat)] 138)).heap.size = wr.heap.size + 1 := World.size_alloc _ _
        have kg := (b2.block wr.heap.size (by rw [hs2]; omega)).trans (heap_new wr (.cells #[.int .u8 9, .int .i64 (GI j : Nat), .int .i64 (GN j : Nat), .int .i64 (GS j : Nat), .int .i64 (GF j : Nat)] 138))
        have kr2 := (b2.block w.heap.size (by rw [hs2]; omega)).trans ((Below.heap_alloc wr (.cells #[.int .u8 9, .int .i64 (GI j : Nat), .int .i64 (GN j : Nat), .int .i64 (GS j : Nat), .int .i64 (GF j : Nat)] 138) _ hsz).trans kr)
        have BF2 := Lib.hid (BF.out.trans (((bel_alloc (Below.refl wr.heap.size wr) (.cells #[.int .u8 9, .int .i64 (GI j : Nat), .int .i64 (GN j : Nat), .int .i64 (GS j : Nat), .int .i64 (GF j : Nat)] 138)).trans (b2.mono (by rw [hs2]; omega))).mono BF.out.size))
        have q0 := cell_of (j := 0) kg rfl
        have q1 := cell_of (j := 1) kg rfl
        have q2 := cell_of (j := 2) kg rfl
        have q3 := cell_of (j := 3) kg rfl
        have q4 := cell_of (j := 4) kg rfl
        clear r0 r1 r2 r3 r4 fr
        have r0 := cell_of (j := 0) kr2 rfl
        have r1 := cell_of (j := 1) kr2 rfl
        have r2 := cell_of (j := 2) kr2 rfl
        have r3 := cell_of (j := 3) kr2 rfl
        have r4 := cell_of (j := 4) kr2 rfl
        have fr : ∀ j, w2.frozen? ⟨w.heap.size, j, none⟩ = false := fun j => by simp [World.frozen?, kr2]
        have fr0 := fr 0
        have fr1 := fr 1
        have fr2 := fr 2
        have fr3 := fr 3
        have fr4 := fr 4
        clear fr kr kr2 kg b2 hs2 hsz
        go_wp2
        refine bodyPost_ret (v := .tuple #[.agg #[.int .u8 9, .int .i64 (GI j : Nat), .int .i64 (GN j : Nat), .int .i64 (GS j : Nat), .int .i64 (GF j : Nat)], .int .i64 0]) ?_ rfl ⟨.inl ⟨j, h6, HX.out, by rw [HTx.out]⟩, ?_⟩
        · simp [results, Try.results57, go_sem, r0, r1, r2, r3, r4]
        · exact ((((BF2.out.setCell (p := ⟨w.heap.size, 0, none⟩) (Nat.le_refl _) _).setCell (p := ⟨w.heap.size, 1, none⟩) (Nat.le_refl _) _).setCell (p := ⟨w.heap.size, 2, none⟩) (Nat.le_refl _) _).setCell (p := ⟨w.heap.size, 3, none⟩) (Nat.le_refl _) _).setCell (p := ⟨w.heap.size, 4, none⟩) (Nat.le_refl _) _
      · have hb : (decide (((GI j : Nat) : Int) ≤ x) && decide (x < ((GI j + GN j : Nat) : Int))) = false := by rw [hI] at hin; rw [Bool.and_eq_false_iff, decide_eq_false_iff_not, decide_eq_false_iff_not]; omega
        rw [hb] at CH
        have HX := Lib.hid hin
        clear hI hin hb
        go_wp2_with fail
        refine (CH _).out.mono ?_
        rintro r w2 ⟨rfl, b2⟩
        have b2' := b2.mono (show wr.heap.size ≤ _ from by rw [World.size_alloc]; omega)
        have B2 := Lib.hid (BEL.out.trans (((bel_alloc (Below.refl wr.heap.size wr) _).trans b2').mono (by have := BEL.out.size; rw [HSZ.out] at this; exact this)))
        clear b2 b2'
        go_wp2_with fail
        go_roundw
        case rel => exact ⟨j + 1, by omega, by go_num, fun k hk => (by
          by_cases e : k = j
          · subst e; exact HX.out
          · exact HNO.out k (by omega)), B2.out⟩
        case measure => simp [intOf]; omega
    · obtain rfl : j = 6 := by omega
      have d0 : decide (((6 : Nat) : Int) < 6) = false := by decide
      have fr0 := fr 0
      have fr1 := fr 1
      have fr2 := fr 2
      have fr3 := fr 3
      have fr4 := fr 4
      clear fr kr
      go_wp2
      refine bodyPost_ret (v := .tuple #[.agg #[.int .u8 0, .int .i64 0, .int .i64 0, .int .i64 0, .int .i64 0], .int .i64 3]) ?_ rfl ⟨.inr ⟨fun i hi => HNO.out i hi, rfl⟩, ?_⟩
      · simp [results, Try.results57, go_sem, r0, r1, r2, r3, r4]
      · exact ((((BF.out.setCell (p := ⟨w.heap.size, 0, none⟩) (Nat.le_refl _) _).setCell (p := ⟨w.heap.size, 1, none⟩) (Nat.le_refl _) _).setCell (p := ⟨w.heap.size, 2, none⟩) (Nat.le_refl _) _).setCell (p := ⟨w.heap.size, 3, none⟩) (Nat.le_refl _) _).setCell (p := ⟨w.heap.size, 4, none⟩) (Nat.le_refl _) _
/-- peers, with the numbers of the group as variables -/
theorem peers_x {w : World} {b : Nat} {f : Cf} {l : List Int} {g : Ge} (h : LyAt w b f l g) (ok : g.ok) (x : Int) : Calls Try.prog 57 #[.pointer (some ⟨b, 0, none⟩), .int .i64 x] w fun e w' =>
    ((∃ i y I N S F : Nat, i < 6 ∧ y < N ∧ x = ((I + y : Nat) : Int) ∧ I = 1 + tot g.t i ∧ N = g.t i ∧ S = 6 + i ∧ F = pT g + wds g.t i ∧ e = .returned (.tuple #[.agg #[.int .u8 9, .int .i64 (I : Nat), .int .i64 (N : Nat), .int .i64 (S : Nat), .int .i64 (F : Nat)], .int .i64 0])) ∨
      ((∀ i, i < 6 → ¬ InT g x i) ∧ e = .returned (.tuple #[.agg #[.int .u8 0, .int .i64 0, .int .i64 0, .int .i64 0, .int .i64 0], .int .i64 3]))) ∧ Below w.heap.size w w' := by
  refine (peers_any h ok x).mono fun e w' hp => ⟨?_, hp.2⟩
  rcases hp.1 with ⟨i, hi, hin, rfl⟩ | ⟨hno, rfl⟩
  · obtain ⟨h1, h2⟩ := hin
    exact .inl ⟨i, (x - ((1 + tot g.t i : Nat) : Int)).toNat, _, _, _, _, hi, by omega, by omega, rfl, rfl, rfl, rfl, rfl⟩
  · exact .inr ⟨hno, rfl⟩
/-- the height of a tower -/
def hgE (g : Ge) (x : Int) : Value := if pk g.t x 6 < 6 then .tuple #[.int .i64 ((pk g.t x 6 + 1 : Nat) : Int), .int .i64 0] else .tuple #[.int .i64 0, .int .i64 3]
theorem height_any {w : World} {b : Nat} {f : Cf} {l : List Int} {g : Ge} (h : LyAt w b f l g) (ok : g.ok) (x : Int) : Calls Try.prog 32 #[.pointer (some ⟨b, 0, none⟩), .int .i64 x] w fun e w' => e = .returned (hgE g x) ∧ Below w.heap.size w w' := by
  have C := Lib.hid (peers_any h ok x)
  clear h ok
  go_enter Try.func32, Try.ntmps32
  go_wp2_with fail
  refine C.out.mono ?_
  rintro r w1 ⟨⟨i, hi, hin, rfl⟩ | ⟨hno, rfl⟩, b1⟩
  · have HV := Lib.hid (show hgE g x = .tuple #[.int .i64 ((i : Int) + 1), .int .i64 0] by rw [hgE, pk_of g.t 6 hi hin, if_pos hi]; rfl)
    have hi' : (i : Int) < 6 := by omega
    have hw : wrap64 ((6 + i : Nat) - 5 : Int) = (i : Int) + 1 := by unfold wrap64; omega
    clear C hin
    unfold txV
    go_wp2
    go_ret2
    exact ⟨by rw [HV.out, show (6 : Int) + (i : Int) - 5 = (i : Int) + 1 by omega]; rfl, bel_trans b1 (bel_alloc (Below.refl _ _) _)⟩
  · have HV := Lib.hid (show hgE g x = .tuple #[.int .i64 0, .int .i64 3] by rw [hgE, pk_no g.t 6 hno]; rfl)
    clear C hno
    go_wp2
    go_ret2
    exact ⟨by rw [HV.out]; rfl, bel_trans b1 (bel_alloc (Below.refl _ _) _)⟩
end Ly
end Go.Proofs.Ytjcbjbhlclajnaa
