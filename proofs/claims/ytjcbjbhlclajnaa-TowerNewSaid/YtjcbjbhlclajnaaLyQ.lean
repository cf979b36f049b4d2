/- Package layout: Of: contract of the translated code. No conditions beside those of the lemma. -/
import Derived.Test.YtjcbjbhlclajnaaLyP
namespace Go.Proofs.Ytjcbjbhlclajnaa
open Go.RowKit Go.Sort
set_option linter.unusedVariables false
set_option linter.unusedSimpArgs false
set_option maxRecDepth 100000
namespace Ly
open Dm (RdK BdU dmB dmE dmN bel_alloc bel_trans cell_lt)
def plcV (p : Pl) : Value := .agg #[.int .u8 p.1, .int .i64 p.2.1, .int .i64 p.2.2]
def ofZ (g : Ge) (a : Int) : Pl := if 0 ≤ a then ofL (gs g) a.toNat else (0, 0, 0)
theorem gxs_at : ∀ (L : List G) (f j : Nat) (q : G), L[j]? = some q → (gxs L f)[j]? = some (q, f + total (L.take j))
  | [], f, j, q, h => by simp at h
  | x :: L, f, 0, q, h => by simp at h; subst h; simp [gxs, total]
  | x :: L, f, j + 1, q, h => by
    have := gxs_at L (f + x.n * x.s) j q (by simpa using h)
    rw [gxs, List.take_succ_cons, total]
    simp only [List.getElem?_cons_succ]
    rw [this, Nat.add_assoc]
theorem ofL_at : ∀ (L : List G) (j : Nat) (q : G) (x : Nat), L[j]? = some q → total (L.take j) ≤ x → x < total (L.take j) + q.n * q.s → ofL L x = q.at' (x - total (L.take j))
  | [], j, q, x, h, _, _ => by simp at h
  | y :: L, 0, q, x, h, h1, h2 => by
    simp at h; subst h
    simp only [List.take_zero, total] at h2 ⊢
    rw [ofL, if_pos (by omega)]; rfl
  | y :: L, j + 1, q, x, h, h1, h2 => by
    simp only [List.take_succ_cons, total] at h1 h2 ⊢
    rw [ofL, if_neg (by omega), ofL_at L j q (x - y.n * y.s) (by simpa using h) (by omega) (by omega)]
    congr 1; omega
theorem total_succ {L : List G} {j : Nat} {q : G} (h : L[j]? = some q) : total (L.take (j + 1)) = total (L.take j) + q.n * q.s := by
  rw [List.take_add_one, h, total_app]; simp [total]
theorem total_take (L : List G) (j : Nat) : total (L.take j) ≤ total L := by
  have := total_app (L.take j) (L.drop j)
  rw [List.take_append_drop] at this; omega
theorem gs_len (g : Ge) : (gs g).length = 14 := by simp [gs, g0, tgs]
theorem pW_le {g : Ge} (ok : g.ok) : pW g ≤ 14000 := by
  have h2 := wds_tot g.t 6 (Nat.le_refl _)
  have := ok.tt
  have := ok.s2
  have := ok.e2
  have := ok.l2
  have := ok.d2
  simp only [pW, pT]; omega
theorem gs_i {g : Ge} (ok : g.ok) {q : G} (h : q ∈ gs g) : q.i ≤ 1100 := by
  rcases gs_mem h with hm | ⟨i, hi, rfl⟩
  · simp only [g0, List.mem_cons, List.not_mem_nil, or_false] at hm
    rcases hm with e | e | e | e | e | e | e | e <;> subst e <;> simp
  · have := tot_le g.t hi; have := ok.tt; simp only [tg]; omega
set_option maxRecDepth 100000 in
set_option maxHeartbeats 4000000 in
theorem ofc_any {w : World} {b : Nat} {f : Cf} {l : List Int} {g : Ge} (h : LyAt w b f l g) (ok : g.ok) (a : Int) : Calls Try.prog 98 #[.pointer (some ⟨b, 0, none⟩), .int .i64 a] w fun e w' => e = .returned (plcV (ofZ g a)) ∧ Below w.heap.size w w' := by
  have HK := Lib.hid ok
  have lt := h.lt
  obtain ⟨A, c, cg, rd⟩ := h.gr
  have each : ∀ j, j < 14 → ∃ q bb o, (gs g)[j]? = some q ∧ A = some ⟨bb, o, none⟩ ∧ KG.At w bb (o + j * 5) (q, total ((gs g).take j)) := fun j hj => by
    obtain ⟨q, hq⟩ : ∃ q, (gs g)[j]? = some q := ⟨_, List.getElem?_eq_getElem (by rw [gs_len]; exact hj)⟩
    obtain ⟨bb, o, e, hat⟩ := rd j _ (gxs_at (gs g) 0 j q hq)
    rw [Nat.zero_add] at hat
    exact ⟨q, bb, o, hq, e, hat⟩
  obtain ⟨_, bb, o, _, rfl, hat0⟩ := each 0 (by omega)
  have hbb : bb < w.heap.size := hat0.lt
  have EACH := Lib.hid (show ∀ j, j < 14 → ∃ q, (gs g)[j]? = some q ∧ KG.At w bb (o + j * 5) (q, total ((gs g).take j)) from fun j hj => by
    obtain ⟨q, bb', o', h1, e, h2⟩ := each j hj
    cases e
    exact ⟨q, h1, h2⟩)
  have HTot := Lib.hid (total_gs g)
  have HPW := Lib.hid (pW_le ok)
  clear h ok rd each hat0
  go_enter Try.func98, Try.ntmps98
  go_wp2_with fail
  have BB := Lib.hid (Below.refl (w.heap.size + 1) (w.alloc (.cells #[.int .u8 0, .int .i64 0, .int .i64 0] 208)))
  have BW := Lib.hid (bel_alloc (Below.refl w.heap.size w) (.cells #[.int .u8 0, .int .i64 0, .int .i64 0] 208))
  have NB := Lib.hid (heap_new w (.cells #[.int .u8 0, .int .i64 0, .int .i64 0] 208))
  have HSZ := Lib.hid (World.size_alloc w (.cells #[.int .u8 0, .int .i64 0, .int .i64 0] 208))
  generalize w.alloc (.cells #[.int .u8 0, .int .i64 0, .int .i64 0] 208) = w1 at *
  clear cg
  go_loopw [17] (fun i wr => ∃ j : Nat, j ≤ 14 ∧ i = .int .i64 j ∧ (a < 0 ∨ (total ((gs g).take j) : Int) ≤ a) ∧ Below (w.heap.size + 1) w1 wr) (fun i _ => (14 - intOf i).toNat)
  case atStart => exact ⟨0, Nat.zero_le _, rfl, by simp [total]; omega, BB.out⟩
  case round =>
    clear BB
    obtain ⟨j, hj, rfl, hno, bel⟩ := hrel
    have BEL := Lib.hid bel
    have BF := Lib.hid (show Below w.heap.size w wr from BW.out.trans (bel.mono (Nat.le_succ _)))
    have hsz : w.heap.size < wr.heap.size := by have := bel.size; rw [HSZ.out] at this; omega
    by_cases hj14 : j < 14
    · have d0 : decide ((j : Int) < 14) = true := decide_eq_true (by omega)
      have j14 : (j : Int) < 14 := by omega
      obtain ⟨q, hq, hat⟩ := EACH.out j hj14
      have hat := hat.keep (BF.out.block bb hbb)
      have c0 := hat 0 _ rfl
      have c1 := hat 1 _ rfl
      have c2 := hat 2 _ rfl
      have c3 := hat 3 _ rfl
      have c4 := hat 4 _ rfl
      rw [Nat.add_zero] at c0
      simp only at c0 c1 c2 c3 c4
      have hbr : bb < wr.heap.size := by omega
      have hts := total_succ hq
      have htt := total_take (gs g) (j + 1)
      rw [HTot.out] at htt
      have hpw := HPW.out
      have hqi := gs_i HK.out (List.mem_of_getElem? hq)
      have CO := fun W => Lib.hid (of_any q.k q.i q.n q.s (total ((gs g).take j)) a W (by omega) (by omega) (by omega))
      have HTS := Lib.hid hts
      by_cases hin : (total ((gs g).take j) : Int) ≤ a ∧ a < ((total ((gs g).take j) + q.n * q.s : Nat) : Int)
      · obtain ⟨X, Y, hof, hv⟩ : ∃ X Y : Int, ofG (⟨q.k, q.i, q.n, q.s⟩, total ((gs g).take j)) a = .tuple #[.agg #[.int .u8 q.k, .int .i64 X, .int .i64 Y], .bool true] ∧ ofZ g a = (q.k, X, Y) := by
          refine ⟨_, _, by rw [ofG, if_pos hin], ?_⟩
          rw [ofZ, if_pos (by omega), ofL_at (gs g) j q a.toNat hq (by omega) (by omega)]; rfl
        simp only [hof] at CO
        have HV := Lib.hid hv
        generalize total ((gs g).take j) = T at *
        generalize q.i = qi at *
        generalize q.n = qn at *
        generalize q.s = qs at *
        generalize q.k = qk at *
        clear hin hof hv hqi hts htt hpw hq hno hat bel
        go_wp2_with fail
        refine (CO _).out.mono ?_
        rintro r w2 ⟨rfl, b2⟩
        have hs2 : (wr.alloc (.cells #[.int .u8 qk, .int .i64 (qi : Nat), .int .i64 (qn : Nat), .int .i64 (qs : Nat), .int .i64 (T : Nat)] 138)).heap.size = wr.heap.size + 1 := World.size_alloc _ _
        have b02 := (bel_alloc (Below.refl wr.heap.size wr) (.cells #[.int .u8 qk, .int .i64 (qi : Nat), .int .i64 (qn : Nat), .int .i64 (qs : Nat), .int .i64 (T : Nat)] 138)).trans (b2.mono (by rw [hs2]; omega))
        have BF2 := Lib.hid (BF.out.trans (b02.mono BF.out.size))
        have bx := BEL.out.trans (b02.mono (by have := BEL.out.size; rw [HSZ.out] at this; exact this))
        have kr := (bx.block w.heap.size (by omega)).trans NB.out
        have hlt2 : w.heap.size < w2.heap.size := by have := b02.size; omega
        have r0 := cell_of (j := 0) kr rfl
        have r1 := cell_of (j := 1) kr rfl
        have r2 := cell_of (j := 2) kr rfl
        have fr : ∀ j, w2.frozen? ⟨w.heap.size, j, none⟩ = false := fun j => by simp [World.frozen?, kr]
        have fr0 := fr 0
        have fr1 := fr 1
        have fr2 := fr 2
        clear fr
        clear kr bx b02 b2 hs2 c0 c1 c2 c3 c4 CO
        go_wp2
        have K : ∀ j, ((((w2.setCell ⟨w.heap.size, 0, none⟩ (.int .u8 qk)).setCell ⟨w.heap.size, 1, none⟩ (.int .i64 X)).setCell ⟨w.heap.size, 2, none⟩ (.int .i64 Y)).alloc (.cells #[.int .u8 qk, .int .i64 X, .int .i64 Y] 208)).cell? ⟨w.heap.size, j, none⟩ = (((w2.setCell ⟨w.heap.size, 0, none⟩ (.int .u8 qk)).setCell ⟨w.heap.size, 1, none⟩ (.int .i64 X)).setCell ⟨w.heap.size, 2, none⟩ (.int .i64 Y)).cell? ⟨w.heap.size, j, none⟩ := fun j => World.cell?_alloc_lt _ _ _ (by simp; omega)
        have BL : Below w.heap.size w ((((w2.setCell ⟨w.heap.size, 0, none⟩ (.int .u8 qk)).setCell ⟨w.heap.size, 1, none⟩ (.int .i64 X)).setCell ⟨w.heap.size, 2, none⟩ (.int .i64 Y)).alloc (.cells #[.int .u8 qk, .int .i64 X, .int .i64 Y] 208)) := bel_alloc' (((BF2.out.setCell (p := ⟨w.heap.size, 0, none⟩) (Nat.le_refl _) _).setCell (p := ⟨w.heap.size, 1, none⟩) (Nat.le_refl _) _).setCell (p := ⟨w.heap.size, 2, none⟩) (Nat.le_refl _) _) _ (by simp; omega)
        refine bodyPost_ret (v := .agg #[.int .u8 qk, .int .i64 X, .int .i64 Y]) ?_ rfl ⟨by rw [HV.out]; rfl, BL⟩
        simp [results, Try.results98, go_sem, K, r0, r1, r2]
      · have hof : ofG (⟨q.k, q.i, q.n, q.s⟩, total ((gs g).take j)) a = .tuple #[.agg #[.int .u8 0, .int .i64 0, .int .i64 0], .bool false] := by rw [ofG, if_neg hin]
        simp only [hof] at CO
        have HNX := Lib.hid (show a < 0 ∨ (total ((gs g).take (j + 1)) : Int) ≤ a by rw [hts]; omega)
        generalize total ((gs g).take j) = T at *
        generalize q.i = qi at *
        generalize q.n = qn at *
        generalize q.s = qs at *
        generalize q.k = qk at *
        clear hin hof hqi hts htt hpw hq hno hat bel
        go_wp2_with fail
        refine (CO _).out.mono ?_
        rintro r w2 ⟨rfl, b2⟩
        have hs2 : (wr.alloc (.cells #[.int .u8 qk, .int .i64 (qi : Nat), .int .i64 (qn : Nat), .int .i64 (qs : Nat), .int .i64 (T : Nat)] 138)).heap.size = wr.heap.size + 1 := World.size_alloc _ _
        have b02 := (bel_alloc (Below.refl wr.heap.size wr) (.cells #[.int .u8 qk, .int .i64 (qi : Nat), .int .i64 (qn : Nat), .int .i64 (qs : Nat), .int .i64 (T : Nat)] 138)).trans (b2.mono (by rw [hs2]; omega))
        have BX := Lib.hid (BEL.out.trans (b02.mono (by have := BEL.out.size; rw [HSZ.out] at this; exact this)))
        have hlt2 : w.heap.size + 1 ≤ w2.heap.size := by have := b02.size; omega
        clear b02 b2 hs2 c0 c1 c2 c3 c4 CO
        go_wp2_with fail
        go_roundw
        case rel => exact ⟨j + 1, by omega, by go_num, HNX.out, bel_alloc' BX.out _ hlt2⟩
        case measure => simp [intOf]; omega
    · obtain rfl : j = 14 := by omega
      have d0 : decide (((14 : Nat) : Int) < 14) = false := by decide
      have HV := Lib.hid (show ofZ g a = (0, 0, 0) by
        rw [ofZ]
        split
        · refine ofL_out _ _ ?_
          rw [List.take_of_length_le (by rw [gs_len]; exact Nat.le_refl _)] at hno
          omega
        · rfl)
      have kr := (bel.block w.heap.size (by omega)).trans NB.out
      have r0 := cell_of (j := 0) kr rfl
      have r1 := cell_of (j := 1) kr rfl
      have r2 := cell_of (j := 2) kr rfl
      have fr : ∀ j, wr.frozen? ⟨w.heap.size, j, none⟩ = false := fun j => by simp [World.frozen?, kr]
      have fr0 := fr 0
      have fr1 := fr 1
      have fr2 := fr 2
      clear fr
      clear kr bel hno
      go_wp2
      refine bodyPost_ret (v := .agg #[.int .u8 0, .int .i64 0, .int .i64 0]) ?_ rfl ⟨by rw [HV.out]; rfl, ?_⟩
      · simp [results, Try.results98, go_sem, r0, r1, r2]
      · exact ((BF.out.setCell (p := ⟨w.heap.size, 0, none⟩) (Nat.le_refl _) _).setCell (p := ⟨w.heap.size, 1, none⟩) (Nat.le_refl _) _).setCell (p := ⟨w.heap.size, 2, none⟩) (Nat.le_refl _) _
end Ly
end Go.Proofs.Ytjcbjbhlclajnaa
