/- Next and united of package omap: contracts of the translated code. Conditions: at most 1000 pairs with increasing keys; the bounds of each number's kind. -/
import Derived.Test.YthinaablldnikaaOmCa
namespace Go.Proofs.Ythinaablldnikaa
open Go.RowKit Go.Sort Go.Lib
set_option linter.unusedVariables false
set_option linter.unusedSimpArgs false
namespace Om
/-- the cell of a result that is a pair: written, and read again -/
theorem res_cells (w w1 : World) (bw : Below w.heap.size w w1) (e0 : w1.cell? ⟨w.heap.size + 1, 0, none⟩ = some (.int .u64 0)) (e1 : w1.cell? ⟨w.heap.size + 1, 1, none⟩ = some (.int .u64 0)) (y z : Int) :
    ((w1.setCell ⟨w.heap.size + 1, 0, none⟩ (.int .u64 y)).setCell ⟨w.heap.size + 1, 1, none⟩ (.int .u64 z)).cell? ⟨w.heap.size + 1, 0, none⟩ = some (.int .u64 y) ∧ ((w1.setCell ⟨w.heap.size + 1, 0, none⟩ (.int .u64 y)).setCell ⟨w.heap.size + 1, 1, none⟩ (.int .u64 z)).cell? ⟨w.heap.size + 1, 1, none⟩ = some (.int .u64 z) ∧
    Below w.heap.size w ((w1.setCell ⟨w.heap.size + 1, 0, none⟩ (.int .u64 y)).setCell ⟨w.heap.size + 1, 1, none⟩ (.int .u64 z)) :=
  ⟨by rw [World.cell?_setCell_other _ _ _ _ (by simp)]; exact World.cell?_setCell_same _ _ _ e0, World.cell?_setCell_same _ _ _ (by rw [World.cell?_setCell_other _ _ _ _ (by simp)]; exact e1),
    (bw.setCell (p := ⟨w.heap.size + 1, 0, none⟩) (Nat.le_succ _) _).setCell (p := ⟨w.heap.size + 1, 1, none⟩) (Nat.le_succ _) _⟩
theorem nextC_nil (lo hi : Int) (w : World) : Calls Try.prog 26 #[.pointer none, .agg #[.int .u64 lo, .int .u64 hi]] w fun e w' => e = .returned (nxT [] 1) ∧ Below w.heap.size w w' := by
  go_enter Try.func26, Try.ntmps26
  go_wp2
  refine bodyPost_ret (v := nxT [] 1) (by simp [results, Try.results26, go_sem, nxT]) rfl ⟨rfl, ?_⟩
  exact bel_alloc (bel_alloc (Below.refl _ _) _) _
set_option maxRecDepth 100000 in
set_option maxHeartbeats 2000000 in
theorem nextC_any (bm : Nat) (v : Value) (l : List Pr) (lo hi : Int) (w : World) (hm : MapAt w bm v l) (ha : Asc l) (hs : l.length ≤ 1000) :
    Calls Try.prog 26 #[.pointer (some ⟨bm, 0, none⟩), .agg #[.int .u64 lo, .int .u64 hi]] w fun e w' => e = .returned (nxT (rgL l lo hi) (rgE lo hi)) ∧ Below w.heap.size w w' := by
  have b0 : Below w.heap.size w ((w.alloc (.cells #[.int .u64 lo, .int .u64 hi] 41)).alloc (.cells #[.int .u64 0, .int .u64 0] 45)) := bel_alloc (bel_alloc (Below.refl _ _) _) _
  have CK := fun W => Lib.hid (checkS_any lo hi W)
  have HM := Lib.hid hm
  by_cases hle : lo ≤ hi
  · rw [show rgE lo hi = 0 from if_pos hle] at CK ⊢
    obtain ⟨A, c, rfl, hc, rd, hz⟩ := hm.rd
    obtain ⟨n, hn⟩ : ∃ n, l.length = n := ⟨_, rfl⟩
    have CW := fun W (h : MapAt W bm (.slice A l.length c) l) => Lib.hid (within_any bm _ l lo hi W h ha hs)
    unfold wT at CW
    have hab := low_le l hle
    have hbn := lowN_le l (hi + 1)
    have hI := in_cut ha hle
    have hin := in_len ha hle
    have HR := Lib.hid rd
    have hsi : (l.length : Int) ≤ 1000 := by omega
    by_cases h0 : lowN l lo = lowN l (hi + 1)
    · have HT := Lib.hid (show nxT (rgL l lo hi) 0 = .tuple #[.agg #[.int .u64 0, .int .u64 0], .bool false, .int .i64 0] by
        have : inL l lo hi = [] := List.eq_nil_of_length_eq_zero (by omega)
        rw [show rgL l lo hi = inL l lo hi from if_pos hle, this]; rfl)
      rw [← h0] at CW
      generalize lowN l lo = fr at *
      clear hm ha hle hab hbn hI hin h0 rd hz
      go_enter Try.func26, Try.ntmps26
      go_wp2_with fail
      refine (CK _).out.mono ?_
      rintro r w1 ⟨rfl, b1⟩
      have bw := bel_trans b0 b1
      have e0 : w1.cell? ⟨w.heap.size, 0, none⟩ = some (.int .u64 lo) := by rw [b1.cell (p := ⟨w.heap.size, 0, none⟩) (by simp <;> omega)]; simp
      have e1 : w1.cell? ⟨w.heap.size, 1, none⟩ = some (.int .u64 hi) := by rw [b1.cell (p := ⟨w.heap.size, 1, none⟩) (by simp <;> omega)]; simp
      go_wp2_with fail
      refine (CW _ (HM.out.below bw)).out.mono ?_
      rintro r w2 ⟨rfl, b2⟩
      have bw2 := bel_trans bw b2
      have hz1 := b1.size
      simp at hz1
      have c0 : w2.cell? ⟨w.heap.size + 1, 0, none⟩ = some (.int .u64 0) := by rw [b2.cell (p := ⟨w.heap.size + 1, 0, none⟩) (by simp; omega), b1.cell (p := ⟨w.heap.size + 1, 0, none⟩) (by simp)]; simp
      have c1 : w2.cell? ⟨w.heap.size + 1, 1, none⟩ = some (.int .u64 0) := by rw [b2.cell (p := ⟨w.heap.size + 1, 1, none⟩) (by simp; omega), b1.cell (p := ⟨w.heap.size + 1, 1, none⟩) (by simp)]; simp
      have f0 : w2.frozen? ⟨w.heap.size + 1, 0, none⟩ = false := by rw [b2.frozen (p := ⟨w.heap.size + 1, 0, none⟩) (by simp; omega), b1.frozen (p := ⟨w.heap.size + 1, 0, none⟩) (by simp)]; simp
      have f1 : w2.frozen? ⟨w.heap.size + 1, 1, none⟩ = false := by rw [b2.frozen (p := ⟨w.heap.size + 1, 1, none⟩) (by simp; omega), b1.frozen (p := ⟨w.heap.size + 1, 1, none⟩) (by simp)]; simp
      have H2 := Lib.hid (res_cells w w2 bw2 c0 c1)
      go_wp2
      obtain ⟨g0, g1, b3⟩ := H2.out 0 0
      generalize (w2.setCell ⟨w.heap.size + 1, 0, none⟩ (.int .u64 0)).setCell ⟨w.heap.size + 1, 1, none⟩ (.int .u64 0) = w3 at *
      exact bodyPost_ret (v := .tuple #[.agg #[.int .u64 0, .int .u64 0], .bool false, .int .i64 0]) (by simp [results, Try.results26, go_sem, g0, g1]) rfl ⟨by rw [HT.out], b3⟩
    · have hlt : lowN l lo < l.length := by omega
      have hx : l[lowN l lo]? = some (l[lowN l lo]'hlt) := List.getElem?_eq_getElem hlt
      have HT := Lib.hid (show nxT (rgL l lo hi) 0 = .tuple #[.agg #[.int .u64 (l[lowN l lo]'hlt).1, .int .u64 (l[lowN l lo]'hlt).2], .bool true, .int .i64 0] by
        have e : inL l lo hi = (l[lowN l lo]'hlt) :: ((l.take (lowN l (hi + 1))).drop (lowN l lo + 1)) := by
          rw [hI, List.drop_eq_getElem_cons (by rw [List.length_take]; omega)]
          congr 1
          simp
        rw [show rgL l lo hi = inL l lo hi from if_pos hle, e]; rfl)
      generalize (l[lowN l lo]'hlt) = x at *
      have HX := Lib.hid hx
      generalize lowN l lo = fr at *
      generalize lowN l (hi + 1) = to at *
      have z1 : ((fr : Int) == to) = false := by simp; omega
      have z2 : (fr : Int) < l.length := by omega
      clear hm ha hle hab hbn hI hin h0 rd hz hx
      generalize l.length = n at *
      go_enter Try.func26, Try.ntmps26
      go_wp2_with fail
      refine (CK _).out.mono ?_
      rintro r w1 ⟨rfl, b1⟩
      have bw := bel_trans b0 b1
      have e0 : w1.cell? ⟨w.heap.size, 0, none⟩ = some (.int .u64 lo) := by rw [b1.cell (p := ⟨w.heap.size, 0, none⟩) (by simp <;> omega)]; simp
      have e1 : w1.cell? ⟨w.heap.size, 1, none⟩ = some (.int .u64 hi) := by rw [b1.cell (p := ⟨w.heap.size, 1, none⟩) (by simp <;> omega)]; simp
      go_wp2_with fail
      refine (CW _ (HM.out.below bw)).out.mono ?_
      rintro r w2 ⟨rfl, b2⟩
      have bw2 := bel_trans bw b2
      have hz1 := b1.size
      simp at hz1
      have c0 : w2.cell? ⟨w.heap.size + 1, 0, none⟩ = some (.int .u64 0) := by rw [b2.cell (p := ⟨w.heap.size + 1, 0, none⟩) (by simp; omega), b1.cell (p := ⟨w.heap.size + 1, 0, none⟩) (by simp)]; simp
      have c1 : w2.cell? ⟨w.heap.size + 1, 1, none⟩ = some (.int .u64 0) := by rw [b2.cell (p := ⟨w.heap.size + 1, 1, none⟩) (by simp; omega), b1.cell (p := ⟨w.heap.size + 1, 1, none⟩) (by simp)]; simp
      have f0 : w2.frozen? ⟨w.heap.size + 1, 0, none⟩ = false := by rw [b2.frozen (p := ⟨w.heap.size + 1, 0, none⟩) (by simp; omega), b1.frozen (p := ⟨w.heap.size + 1, 0, none⟩) (by simp)]; simp
      have f1 : w2.frozen? ⟨w.heap.size + 1, 1, none⟩ = false := by rw [b2.frozen (p := ⟨w.heap.size + 1, 1, none⟩) (by simp; omega), b1.frozen (p := ⟨w.heap.size + 1, 1, none⟩) (by simp)]; simp
      have H2 := Lib.hid (res_cells w w2 bw2 c0 c1)
      have m2 := (HM.out.below bw2).1
      obtain ⟨b, o, rfl, g2, g3⟩ := (HR.out.below bw2) fr x HX.out
      go_wp2
      obtain ⟨g0, g1, b3⟩ := H2.out x.1 x.2
      generalize (w2.setCell ⟨w.heap.size + 1, 0, none⟩ (.int .u64 x.1)).setCell ⟨w.heap.size + 1, 1, none⟩ (.int .u64 x.2) = w3 at *
      exact bodyPost_ret (v := .tuple #[.agg #[.int .u64 x.1, .int .u64 x.2], .bool true, .int .i64 0]) (by simp [results, Try.results26, go_sem, g0, g1]) rfl ⟨by rw [HT.out], b3⟩
  · have HT := Lib.hid (show nxT (rgL l lo hi) (rgE lo hi) = .tuple #[.agg #[.int .u64 0, .int .u64 0], .bool false, .int .i64 13] by
      rw [show rgL l lo hi = [] from if_neg hle, show rgE lo hi = 13 from if_neg hle]; rfl)
    rw [show rgE lo hi = 13 from if_neg hle] at CK
    clear hm ha hle
    go_enter Try.func26, Try.ntmps26
    go_wp2_with fail
    refine (CK _).out.mono ?_
    rintro r w2 ⟨rfl, b2⟩
    have bw2 := bel_trans b0 b2
    have hz1 := b2.size
    simp at hz1
    have c0 : w2.cell? ⟨w.heap.size + 1, 0, none⟩ = some (.int .u64 0) := by rw [b2.cell (p := ⟨w.heap.size + 1, 0, none⟩) (by simp)]; simp
    have c1 : w2.cell? ⟨w.heap.size + 1, 1, none⟩ = some (.int .u64 0) := by rw [b2.cell (p := ⟨w.heap.size + 1, 1, none⟩) (by simp)]; simp
    have f0 : w2.frozen? ⟨w.heap.size + 1, 0, none⟩ = false := by rw [b2.frozen (p := ⟨w.heap.size + 1, 0, none⟩) (by simp)]; simp
    have f1 : w2.frozen? ⟨w.heap.size + 1, 1, none⟩ = false := by rw [b2.frozen (p := ⟨w.heap.size + 1, 1, none⟩) (by simp)]; simp
    have H2 := Lib.hid (res_cells w w2 bw2 c0 c1)
    go_wp2
    obtain ⟨g0, g1, b3⟩ := H2.out 0 0
    generalize (w2.setCell ⟨w.heap.size + 1, 0, none⟩ (.int .u64 0)).setCell ⟨w.heap.size + 1, 1, none⟩ (.int .u64 0) = w3 at *
    exact bodyPost_ret (v := .tuple #[.agg #[.int .u64 0, .int .u64 0], .bool false, .int .i64 13]) (by simp [results, Try.results26, go_sem, g0, g1]) rfl ⟨by rw [HT.out], b3⟩
end Om
end Go.Proofs.Ythinaablldnikaa
