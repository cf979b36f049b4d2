/- List of leapfrogref07: contract of the translated code. Conditions: the bounds of each number's kind. -/
import Derived.Test.YtbndgbjenmknmaaDoorMgL
namespace Go.Proofs.YtbndgbjenmknmaaDoor
open Go.RowKit Go.Sort Go.ChangeShapes Go.WideShapes Go.Deep Go.Joins
set_option linter.unusedVariables false
set_option linter.unusedSimpArgs false
set_option linter.unnecessarySimpa false
namespace Mg
open Om (Pr below_drewN bel_alloc flat)
theorem sz07 : (Tryd.prog.info? 69).map (·.size) = some 322 := by kernel_rfl
theorem ld07 (w : World) (b : Nat) (M : Mg) (h : MrAt w b M) : (Instr.loadAt 69 (.pointer (some ⟨b, 0, none⟩))).run Tryd.prog w = .ok (.agg M.cells.toArray) w :=
  run_loadAt_mid w b 0 _ M.cells _ h.range Tryd.underlying69 rfl (by rw [cells_len]; exact sz07)
theorem cells_one (M : Mg) : M.cells.toArray.all (·.oneCell') = true := all_oneCell_toArray fun v hv => by
  obtain ⟨k, hk⟩ := List.getElem?_of_mem hv
  have hlt : k < 322 := by
    have := (List.getElem?_eq_some_iff.1 hk).1
    rw [cells_len] at this; exact this
  rw [cells_at M hlt] at hk
  injection hk with hk
  rw [← hk]
  unfold Mg.cell
  repeat' split
  all_goals rfl
theorem MrAt.there {w : World} {b : Nat} {M : Mg} (h : MrAt w b M) : w.there b 0 322 := fun j hj => by
  have h1 := World.rangeAt.isSome h.range j (by rw [cells_len]; exact hj)
  exact ⟨h1, by rw [Nat.zero_add]; exact h.fz j hj⟩
theorem st07 (w : World) (b : Nat) (M N : Mg) (h : MrAt w b N) : (Instr.storeAt 69 (.pointer (some ⟨b, 0, none⟩)) (.agg M.cells.toArray)).run Tryd.prog w = .ok () (w.setCells b 0 M.cells) := by
  have hs : M.cells.toArray.size = 322 := by rw [List.size_toArray, cells_len]
  have := run_storeAt_mid (P := Tryd.prog) w b 0 69 M.cells.toArray (by rw [hs]; exact h.there) (by rw [hs]; exact sz07) (cells_one M)
  simpa using this
theorem cp_at (w : World) (b : Nat) (M N : Mg) (h : MrAt w b N) : MrAt (w.setCells b 0 M.cells) b M :=
  MrAt.of_range (World.rangeAt_setCells_same w b 0 M.cells (by rw [cells_len]; exact h.there)) fun k hk => by rw [World.frozen?_setCells]; exact h.fz k hk
theorem set_block (b i : Nat) (hi : i ≠ b) : ∀ (vs : List Value) (o : Nat) (w : World), (w.setCells b o vs).heap[i]? = w.heap[i]? ∧ (w.setCells b o vs).heap.size = w.heap.size ∧ (w.setCells b o vs).os = w.os ∧ (w.setCells b o vs).tape = w.tape ∧ (w.setCells b o vs).output = w.output
  | [], o, w => ⟨rfl, rfl, rfl, rfl, rfl⟩
  | v :: r, o, w => by
    obtain ⟨h1, h2, h3, h4, h5⟩ := set_block b i hi r (o + 1) (w.setCell ⟨b, o, none⟩ v)
    rw [World.setCells]
    exact ⟨h1.trans (Below.heap_setCell w ⟨b, o, none⟩ v i hi), h2.trans (by simp), h3, h4, h5⟩
theorem cp_below (w : World) (b : Nat) (o : Obj) (vs : List Value) (hb : w.heap.size ≤ b) : Below w.heap.size w ((w.alloc o).setCells b 0 vs) := by
  have h := bel_alloc (Below.refl _ w) o
  have h0 := set_block b (b + 1) (by omega) vs 0 (w.alloc o)
  refine ⟨h0.2.2.1.trans h.os, h0.2.2.2.1.trans h.tape, h0.2.2.2.2.trans h.output, Nat.le_trans h.size (Nat.le_of_eq h0.2.1.symm), fun i hi => ?_⟩
  exact (set_block b i (by omega) vs 0 (w.alloc o)).1.trans (h.block i hi)
theorem list_len (M : Mg) : M.list.length ≤ 64 := by
  have := Om.setA_len_le M.cands []
  have h2 : M.cands.length ≤ 64 := by
    unfold Mg.cands; rw [List.length_map]
    exact Nat.le_trans (List.length_filter_le _ _) (by simp)
  unfold Mg.list
  simp at this
  omega
theorem own_mono' {w : World} {base base' : Nat} {e : TypeId} {size : Nat} {v : Value} {n : Nat} {xs : List Value} (h : w.ownsRow base e size v n xs) (hb : base' ≤ base) : w.ownsRow base' e size v n xs :=
  ⟨h.1, h.2.imp (fun x => x) fun ⟨g, cap, cur, h1, h2, h3⟩ => ⟨g, cap, cur, h1, Nat.le_trans hb h2, h3⟩⟩
theorem own_keep {w w' : World} {base : Nat} {e : TypeId} {size : Nat} {v : Value} {n : Nat} {xs : List Value} (h : w.ownsRow base e size v n xs) (hb : ∀ g, v.ownBlock = some g → w'.heap[g]? = w.heap[g]?) : w'.ownsRow base e size v n xs :=
  ⟨h.1, h.2.imp (fun x => x) fun ⟨g, cap, cur, h1, h2, h3, h4⟩ => ⟨g, cap, cur, h1, h2, (hb g (by rw [h1]; rfl)).trans h3, h4⟩⟩
theorem own_step {w w3 : World} {B o : Nat} {x : Value} {t : TypeId} {v : Value} {n : Nat} {xs : List Value} (h : w.ownsRow (B + 1) t 2 v n xs) (hb : Below (w.setCell ⟨B, o, none⟩ x).heap.size (w.setCell ⟨B, o, none⟩ x) w3) : w3.ownsRow (B + 1) t 2 v n xs :=
  own_keep h fun g hg => by
    have h1 := h.lt g hg
    exact (hb.block g (by simp; omega)).trans (Below.heap_setCell w ⟨B, o, none⟩ x g (by show g ≠ B; omega))
def slLen : Value → Nat
  | .slice _ n _ => n
  | _ => 0
set_option maxRecDepth 100000 in
set_option maxHeartbeats 4000000 in
theorem listR (M : Mg) (b : Nat) (w : World) (hm : MrAt w b M) (hi : M.Inv) :
    Calls Tryd.prog 17 #[.pointer (some ⟨b, 0, none⟩)] w (fun e w' => ∃ v, e = .returned v ∧ w'.ownsRow w.heap.size 39 2 v M.list.length (flat M.list) ∧ Below w.heap.size w w') := by
  have hz := zs_run
  have hne : ¬ zsL.toArray = #[] := fun e => by have := congrArg Array.size e; revert this; decide
  have hsz : zsL.toArray.size = 322 := by decide
  have NW := new_at w 69
  have B2 := cp_below w w.heap.size (.cells zsL.toArray 69) M.cells (Nat.le_refl _)
  have M2 := cp_at (w.alloc (.cells zsL.toArray 69)) w.heap.size M _ NW
  have TH := NW.there
  generalize zsL.toArray = zs at *
  have HB2 := Lib.hid B2
  have HM2 := Lib.hid M2
  have HTH := Lib.hid TH
  have HM := Lib.hid hm
  clear NW B2 M2 TH hm
  have LL := fun N W h => Lib.hid (leastR N w.heap.size W h)
  have s322 : M.cells.toArray.size = 322 := by rw [List.size_toArray, cells_len]
  have lcs := cells_len M
  have RG := Lib.hid HM.out.range
  have ON := Lib.hid (cells_one M)
  have sc : (storeCells ⟨w.heap.size, 0, none⟩ M.cells).run Tryd.prog (w.alloc (.cells zs 69)) = .ok () ((w.alloc (.cells zs 69)).setCells w.heap.size 0 M.cells) := by
    have := run_storeCells_cells (P := Tryd.prog) w.heap.size 0 M.cells 0 (w.alloc (.cells zs 69)) (fun j hj => by have := (HTH.out j (by omega)).1; simpa using this) (fun j hj => by have := (HTH.out j (by omega)).2; simpa using this) (fun v hv => (Array.all_eq_true_iff_forall_mem.1 (cells_one M)) v (by simpa using hv))
    simpa only [Nat.add_zero] using this
  generalize M.cells = cs at *
  go_enter Tryd.func17, Tryd.ntmps17
  go_wp2_with fail
  refine wp_load_mid 69 (.tmp 9) rfl b 0 rfl cs _ RG.out Tryd.underlying69 rfl (by rw [lcs]; exact sz07) ?_
  go_wp2_with fail
  refine (LL M _ HM2.out).out.mono ?_
  rintro e w3 ⟨r, rfl, hr, hb⟩
  have B3 := Lib.hid (HB2.out.trans (hb.mono HB2.out.size))
  have M3 := Lib.hid (HM2.out.below hb)
  have HR := Lib.hid hr
  clear hb hr HB2 HM2 HTH
  go_wp2_with fail
  go_loopw [4, 5] (fun s4 s5 wr => ∃ (N : Mg) (l : List Pr) (v : Value) (r : Int), s4 = v ∧ s5 = .int .i64 r ∧ MrAt wr w.heap.size N ∧ N.Inv ∧ N.leastN 64 r ∧ M.list = l ++ N.list ∧ wr.ownsRow (w.heap.size + 1) 39 2 v l.length (flat l) ∧ Below w.heap.size w wr) (fun s4 _ _ => (M.list.length + 1 - slLen s4))
  case atStart => exact ⟨M, [], _, r, rfl, rfl, M3.out, hi, HR.out, rfl, World.ownsRow_nil _ _ _ _, B3.out⟩
  case round =>
    obtain ⟨N, l, v, r, rfl, rfl, hN, hNi, hl, hlist, hrow, hbl⟩ := hrel
    obtain ⟨_, A, vc, rfl, _⟩ := Om.row_form hrow
    have hlt := hN.lt
    have hlen := list_len M
    have HN := Lib.hid hN
    have HL := Lib.hid hlist
    have HW := Lib.hid hrow
    rcases hl with ⟨rfl, hno⟩ | ⟨v, rfl, hv, hh, hle⟩
    · have E := Lib.hid (show M.list = l by rw [hlist, list_none hNi hno, List.append_nil])
      clear hN hlist hrow
      go_wp2_with fail
      go_ret
      exact ⟨_, rfl, by rw [E.out]; exact own_mono' HW.out (by omega), hbl⟩
    · have e := list_drop hNi (v := v) ⟨hv, hh, hle⟩ (inv_drop hNi v)
      rw [e] at hlist
      have hll : l.length + 1 ≤ M.list.length := by rw [hlist]; simp
      have c0 := hN.pk v hv
      have c1 := hN.pv v hv
      have t0 : decide (0 ≤ (v : Int)) = true := decide_eq_true (by omega)
      have i0 : 0 ≤ (v : Int) := by omega
      have i1 : (v : Int) < 64 := by omega
      have i2 : v < 64 := hv
      clear hN hrow
      go_wp2_with (at_builtin; refine Om.app1 rfl (.tmp 15) (.tmp 20) rfl wr (w.heap.size + 1) l.length _ l (N.p v) rfl rfl HW.out (by omega) (by omega) ?_; intro v1 w1 h1 b1; have H1 := Lib.hid h1; clear h1; have B1 := Lib.hid b1; have N1 := HN.out.keep (b1.block w.heap.size (by omega)); have N2 := Lib.hid N1; have d0 := N1.hs v hv; have f0 := N1.fz (64 + v) (by omega); have BB := Lib.hid (hbl.trans (b1.mono (by omega))); clear b1 N1)
      have N3 := Lib.hid (N2.out.drop hv)
      refine (LL _ _ N3.out).out.mono ?_
      rintro e2 w3 ⟨r2, rfl, hr, hb⟩
      have N4 := Lib.hid (N3.out.below hb)
      have H4 := Lib.hid (own_step H1.out hb)
      have B4 := Lib.hid (BB.out.trans (Below.trans (Chg.below (Chg.set (Chg.of_below (Below.refl _ w1)) (64 + v) (.bool false)) (Nat.le_refl _) (by have := BB.out.size; omega)) (hb.mono (by have := BB.out.size; simp; omega))))
      have NI := inv_drop hNi v
      obtain ⟨_, A', vc', rfl, _⟩ := Om.row_form (n := l.length + 1) (l := l ++ [N.p v]) H4.out
      go_wp2_with fail
      go_roundw
      case rel => exact ⟨N.drop v, l ++ [N.p v], _, r2, rfl, rfl, N4.out, NI, hr, by rw [hlist, List.append_assoc]; rfl, by rw [List.length_append]; exact H4.out, B4.out⟩
      case measure => simp [slLen]; omega
end Mg
end Go.Proofs.YtbndgbjenmknmaaDoor
