/- Package history: Effects, with the library's sort of indices: contracts of the translated code. Conditions: numbers of their types, at most 1,000 calls. -/
import Derived.Test.YtgfhfcjjodcgdaaHiI
import Derived.Test.YtgfhfcjjodcgdaaLayI
namespace Go.Proofs.Ytgfhfcjjodcgdaa
open Go.RowKit Go.Shelf Go.Sort
set_option linter.unusedVariables false
set_option linter.unusedSimpArgs false
namespace Hi
def cmpI (x y : Int) : Int := if x < y then -1 else if y < x then 1 else 0
theorem isNaN_any (a : Int) (w : World) : Calls Try.prog 63 #[.int .i64 a] w fun e w' => e = .returned (.bool false) ∧ w = w' := by
  go_enter Try.func63, Try.ntmps63
  go_wp2
  go_ret
  exact ⟨ret_eq (by simp), rfl⟩
theorem compare_any (a b : Int) (w : World) : Calls Try.prog 43 #[.int .i64 a, .int .i64 b] w fun e w' => e = .returned (.int .i64 (cmpI a b)) ∧ w = w' := by
  rcases Int.lt_trichotomy a b with h | h | h
  · have H := Lib.hid (show cmpI a b = -1 by rw [cmpI, if_pos h])
    go_enter Try.func43, Try.ntmps43
    go_wp2_with (go_at_call 63; refine (isNaN_any _ _).mono ?_; rintro r w1 ⟨rfl, rfl⟩)
    go_ret
    exact ⟨ret_eq (by rw [H.out]; rfl), rfl⟩
  · subst h
    have H := Lib.hid (show cmpI a a = 0 by rw [cmpI, if_neg (by omega), if_neg (by omega)])
    go_enter Try.func43, Try.ntmps43
    go_wp2_with (go_at_call 63; refine (isNaN_any _ _).mono ?_; rintro r w1 ⟨rfl, rfl⟩)
    go_ret
    exact ⟨ret_eq (by rw [H.out]; rfl), rfl⟩
  · have h' : ¬ a < b := by omega
    have H := Lib.hid (show cmpI a b = 1 by rw [cmpI, if_neg h', if_pos h])
    go_enter Try.func43, Try.ntmps43
    go_wp2_with (go_at_call 63; refine (isNaN_any _ _).mono ?_; rintro r w1 ⟨rfl, rfl⟩)
    go_ret
    exact ⟨ret_eq (by rw [H.out]; rfl), rfl⟩
/-- the comparison of two calls by their effects -/
theorem took2_any (l : List C) (Bx b o c n : Nat) (hl : l.length = n) (hn : n ≤ 1000) (i j : Nat) (hi : i < n) (hj : j < n) (V : World) (hB : V.cell? ⟨Bx, 0, none⟩ = some (.slice (some ⟨b, o, none⟩) n c)) (hr : KC.Rd V (some ⟨b, o, none⟩) l) :
    Calls Try.prog 42 #[.int .i64 (i : Int), .int .i64 (j : Int), .pointer (some ⟨Bx, 0, none⟩)] V fun e w' => e = .returned (.int .i64 (cmpI (tk l i) (tk l j))) ∧ ∃ q, w' = V.drewN q := by
  obtain ⟨b1, o1, e1, a1⟩ := KC.at_ hr (show i < l.length by omega)
  obtain ⟨b2, o2, e2, a2⟩ := KC.at_ hr (show j < l.length by omega)
  cases e1
  cases e2
  have c1 := a1 10 _ rfl
  have c2 := a2 10 _ rfl
  have HT := Lib.hid (show cmpI (tk l i) (tk l j) = cmpI (l.getD i c0).u (l.getD j c0).u from rfl)
  rw [HT.out]
  generalize (l.getD i c0).u = x at *
  generalize (l.getD j c0).u = y at *
  clear HT a1 a2 hr hl
  have i1 : (i : Int) < n := by omega
  have j1 : (j : Int) < n := by omega
  have CC := fun W => Lib.hid (compare_any x y W)
  generalize cmpI x y = r at *
  go_enter Try.func42, Try.ntmps42
  go_wp2
  go_quiet ((go_at_call 43; exact Calls.quiet_of_same ((CC _).out.mono fun _ _ h => ⟨h.1, h.2.symm⟩)))
  go_wp2
  go_ret
  exact ⟨rfl, _, rfl⟩
section
variable {α : Type} [Inhabited α]
theorem sort_block {enc : α → Value} {w : World} {g m : Nat} {d : Array α} {os : Array Obj} {k : Nat} (hk : k ≠ g) (hl : k < w.heap.size) : (sortWorld enc w g 0 m d os).heap[k]? = w.heap[k]? := by
  simp [sortWorld, grow, putRow, mapBlock, ahead, Array.getElem?_append, Array.getElem?_modify, hl]
  rw [Array.getElem_modify, if_neg (Ne.symm hk)]
theorem sort_own {enc : α → Value} {w : World} {g m : Nat} {d : Array α} {os : Array Obj} {cur : Array Value} {e : TypeId} {fr : Nat × Nat} (hg : w.heap[g]? = some (.cells cur e fr)) : (sortWorld enc w g 0 m d os).heap[g]? = some (.cells (putCells enc 0 d cur) e fr) := by
  obtain ⟨hl, hv⟩ := Array.getElem?_eq_some_iff.1 hg
  simp [sortWorld, grow, putRow, mapBlock, ahead, Array.getElem?_append, Array.getElem?_modify, hl]
  rw [Array.getElem_modify_self, hv]
  rfl
theorem sort_below {enc : α → Value} {w : World} {g m B : Nat} {d : Array α} {os : Array Obj} (hB : B ≤ g) (hw : B ≤ w.heap.size) : Below B w (sortWorld enc w g 0 m d os) :=
  ⟨rfl, rfl, rfl, by simp [sortWorld, grow, putRow, mapBlock, ahead], fun k hk => sort_block (by omega) (by omega)⟩
theorem put_take {enc : α → Value} {d : Array α} {cur : Array Value} (h : d.size ≤ cur.size) : (putCells enc 0 d cur).toList.take d.size = d.toList.map enc := by
  apply List.ext_getElem?
  intro k
  by_cases hk : k < d.size
  · rw [List.getElem?_take_of_lt hk, Array.getElem?_toList]
    unfold putCells
    rw [Array.getElem?_mapIdx, Array.getElem?_eq_getElem (by omega)]
    simp only [Option.map_some, Nat.zero_le, Nat.zero_add, hk, and_self, if_true, Nat.sub_zero]
    rw [List.getElem?_map, Array.getElem?_toList, Array.getElem?_eq_getElem hk, getElem!_pos d k hk]
    rfl
  · rw [List.getElem?_eq_none (by rw [List.length_take]; omega), List.getElem?_eq_none (by simp; omega)]
end
/-- a row of ints behind the sort -/
theorem row_sort {α : Type} [Inhabited α] {enc : α → Value} {w : World} {base g n cap m : Nat} {xs : List Value} {ys : List Int} {d : Array α} {os : Array Obj} (h : w.ownsRow base KI.E KI.sz (.slice (some ⟨g, 0, none⟩) n cap) n xs) (hs : d.size = n) (he : d.toList.map enc = KI.flat ys) :
    (sortWorld enc w g 0 m d os).ownsRow base KI.E KI.sz (.slice (some ⟨g, 0, none⟩) n cap) n (KI.flat ys) := by
  have hl : (KI.flat ys).length = n * KI.sz := by rw [← he]; simp [KI, hs]
  rcases h.2 with ⟨e, _⟩ | ⟨g', cap', cur, e, hb, hh, hn, hm, hc, ht⟩
  · cases e
  · injection e with e1 e2 e3
    cases e1
    subst e3
    refine ⟨hl, .inr ⟨g, cap, putCells enc 0 d cur, rfl, hb, sort_own hh, hn, hm, ?_, ?_⟩⟩
    · unfold putCells; rw [Array.size_mapIdx]; exact hc
    · have hk : n * KI.sz = d.size := by simp [KI, hs]
      rw [hk, ← he]
      exact put_take (by rw [hc, hs]; simp [KI]; omega)
/-- the error and the list of Effects -/
def efL (l : List C) : List Int := if erC l = 0 then (eff l).map fun i : Nat => (i : Int) else []
theorem idx_took (l : List C) : idx (fun c => decide (0 ≤ c.u)) l l.length = (took l).map fun i : Nat => (i : Int) := rfl
theorem enc_eq {n : Nat} (d : List (Fin n)) : d.map (fun k => Value.int .i64 ((k.val : Nat) : Int)) = KI.flat ((d.map Fin.val).map fun i : Nat => (i : Int)) := by
  unfold Kd.flat
  rw [List.map_map, List.flatMap_map]
  induction d with
  | nil => rfl
  | cons a d ih => rw [List.map_cons, ih]; rfl
theorem fin_list {n : Nat} : ∀ xs : List Nat, (∀ x ∈ xs, x < n) → ∃ d : List (Fin n), d.map Fin.val = xs
  | [], _ => ⟨[], rfl⟩
  | x :: xs, h => by
    obtain ⟨d, hd⟩ := fin_list xs fun y hy => h y (List.mem_cons_of_mem _ hy)
    exact ⟨⟨x, h x (List.mem_cons_self ..)⟩ :: d, by rw [List.map_cons, hd]⟩
set_option maxHeartbeats 1000000 in
/-- the sort of the calls that took effect -/
theorem sort_any (l : List C) (n Bx g cap c k : Nat) (A : Option Addr) (w : World) (base : Nat) (hl : l.length = n) (hn : n ≤ 1000) (hw : WF l) (hk : (took l).length = k) (hB : w.cell? ⟨Bx, 0, none⟩ = some (.slice A n c)) (hr : KC.Rd w A l)
    (hA : ∀ a, A = some a → a.block < base) (hBx : Bx < base) (ho : w.ownsRow base KI.E KI.sz (.slice (some ⟨g, 0, none⟩) k cap) k (KI.flat ((took l).map fun i : Nat => (i : Int)))) (h0 : 0 < k) :
    Calls Try.prog 41 #[.slice (some ⟨g, 0, none⟩) k cap, .func (.func 42) #[] #[.pointer (some ⟨Bx, 0, none⟩)]] w fun e w' => e = .returned (.tuple #[]) ∧ w'.ownsRow base KI.E KI.sz (.slice (some ⟨g, 0, none⟩) k cap) k (KI.flat ((eff l).map fun i : Nat => (i : Int))) ∧ Below base w w' := by
  have hgb := ho.lt g rfl
  obtain ⟨d, hd⟩ := fin_list (n := n) (took l) fun x hx => by have := (mem_took.1 hx).1; omega
  have hdk : d.length = k := by rw [← hk, ← hd]; simp
  have hk1 : k ≤ 1000 := by
    rw [← hk]
    unfold took
    have := List.length_filter_le (fun i => decide (0 ≤ tk l i)) (List.range l.length)
    rw [List.length_range] at this
    omega
  have hn0 : 0 < n := by
    cases d with
    | nil => simp at hdk; omega
    | cons a _ => exact Nat.lt_of_le_of_lt (Nat.zero_le _) a.isLt
  haveI : Inhabited (Fin n) := ⟨⟨0, hn0⟩⟩
  have hll : 0 < l.length := by omega
  obtain ⟨b, o, rfl, _⟩ := KC.at_ hr hll
  have hbb := hA _ rfl
  have hbb : b < base := hbb
  have eg : ∀ args w, (callFunc 42 args).run Try.prog w = .ok (.enter 42 args) w := enters_of Try.func42 (by kernel_rfl) rfl
  have hbase : base ≤ w.heap.size := by omega
  have hH : Holds (fun k : Fin n => Value.int .i64 ((k.val : Nat) : Int)) w g 0 d.toArray := fun j hj => by
    have hj' : j < d.length := by simpa using hj
    refine ⟨?_, ho.frozenAt _⟩
    rw [Nat.zero_add, ho.cellAt _ (by simp [KI]; omega), ← hd, ← enc_eq, List.getElem?_map, List.getElem?_eq_getElem hj']
    rw [getElem!_pos d.toArray j (by simpa using hj')]
    simp
  have hcon := Any.slices_SortFunc Try.sortI (fun k : Fin n => Value.int .i64 ((k.val : Nat) : Int)) (fun x => rfl) (fun x y : Fin n => cmpI (tk l x.val) (tk l y.val)) (by
    have hlt : ∀ x y : Fin n, ltOf (fun x y : Fin n => cmpI (tk l x.val) (tk l y.val)) x y = decide (tk l x.val < tk l y.val) := fun x y => by
      unfold ltOf cmpI
      by_cases h1 : tk l x.val < tk l y.val
      · simp [h1]
      · by_cases h2 : tk l y.val < tk l x.val <;> simp [h1, h2]
    constructor
    · intro x; rw [hlt]; simp
    · intro x y z h1 h2; rw [hlt] at *; simp at *; omega
    · intro x y z h1 h2; rw [hlt] at *; simp at *; omega) 42 #[.pointer (some ⟨Bx, 0, none⟩)] g 0 cap d.toArray w eg (fun m os dk hs x y => by
      have hc : ∀ k', k' < base → (sortWorld (fun k : Fin n => Value.int .i64 ((k.val : Nat) : Int)) w g 0 m dk os).heap[k']? = w.heap[k']? := fun k' h => sort_block (by omega) (by omega)
      exact (took2_any l Bx b o c n hl hn x.val y.val x.isLt y.isLt _ ((World.cell?_of_block (a := ⟨Bx, 0, none⟩) (hc Bx hBx)).trans hB) (hr.keep fun b' _ h => hc b' (by obtain ⟨a, e, rfl⟩ := h; cases e; exact hbb))).mono fun _ _ ⟨h1, q, h2⟩ => ⟨h1, q, #[], by rw [h2, grow_empty]⟩) hH hgb.2 (by simp; omega)
  have e : d.toArray.size = k := by simpa using hdk
  rw [e] at hcon
  refine Calls.mono (P := Try.prog) hcon ?_
  rintro r w' ⟨rfl, d', m, os, hp, hso, rfl⟩
  have hsz : d'.size = k := hp.1.trans e
  have hperm : d'.toList.Perm d := by
    have h2 := hp.2.2
    rw [show d'.extract 0 k = d' by rw [show k = d'.size by rw [hsz]]; exact Array.extract_size, show d.toArray.extract 0 k = d.toArray by rw [show k = d.toArray.size by rw [e]]; exact Array.extract_size] at h2
    simpa using h2
  have heff : d'.toList.map Fin.val = eff l := by
    refine eff_uniq hw (by rw [← hd]; exact hperm.map _) ?_
    rw [List.pairwise_map, List.pairwise_iff_getElem]
    intro i j hi hj hij
    have hi' : i < d'.size := by simpa using hi
    have hj' : j < d'.size := by simpa using hj
    have := hso i j (Nat.zero_le _) hij (by rw [← hsz]; exact hj')
    unfold ltOf cmpI at this
    rw [getElem!_pos d' i hi', getElem!_pos d' j hj'] at this
    simp only [Array.getElem_toList]
    apply Int.not_lt.1
    intro hlt
    refine of_decide_eq_false this ?_
    show (if tk l d'[j].val < tk l d'[i].val then (-1 : Int) else if tk l d'[i].val < tk l d'[j].val then 1 else 0) < 0
    rw [if_pos hlt]; decide
  exact ⟨rfl, row_sort ho hsz (by rw [enc_eq, heff]), sort_below hgb.1 hbase⟩
set_option maxHeartbeats 1000000 in
theorem effects_any (A : Option Addr) (n c : Nat) (l : List C) (w : World) (hl : l.length = n) (hx : n ≤ 1000) (hr : KC.Rd w A l) (hb : Bd l) :
    Calls Try.prog 17 #[.slice A n c] w (RwPost KI (erC l) (efL l) w) := by
  have B0 := Lib.hid (bel_alloc (Below.refl w.heap.size w) (.cells #[.slice A n c] 22))
  have CC := Lib.hid (check_any A n c l (w.alloc (.cells #[.slice A n c] 22)) hl hx (hr.below B0.out) hb)
  rw [chkV_eq] at CC
  have HL := Lib.hid hl
  have HR := Lib.hid (hr.below B0.out)
  have hcx : (w.alloc (.cells #[.slice A n c] 22)).cell? ⟨w.heap.size, 0, none⟩ = some (.slice A n c) := by simp
  have HCX := Lib.hid hcx
  have hbA : (0 < l.length → ∀ a, A = some a → a.block < w.heap.size) := fun h a e => by
    obtain ⟨b, o, e', q⟩ := hr 0 _ (List.getElem?_eq_getElem h)
    rw [e] at e'; injection e' with e'; subst e'
    exact q.lt
  have HBA := Lib.hid hbA
  clear hl hr hb hcx hbA
  generalize chkAt l = at_ at *
  by_cases hwf : WF l
  · rw [erC_ok hwf] at CC
    have HW := Lib.hid hwf
    have CH := fun (W : World) h => Lib.hid (chosen_any 40 (fun c => decide (0 ≤ c.u)) (fun x W => took_any x W) (enters_of Try.func40 (by kernel_rfl) rfl) A n c l W HL.out hx h)
    have HID := Lib.hid (show idx (fun c => decide (0 ≤ c.u)) l n = (took l).map fun i : Nat => (i : Int) from by rw [← HL.out]; exact idx_took l)
    have HP := Lib.hid (show ∀ v w', w'.ownsRow w.heap.size KI.E KI.sz v ((eff l).map fun i : Nat => (i : Int)).length (KI.flat ((eff l).map fun i : Nat => (i : Int))) → Below w.heap.size w w' → RwPost KI (erC l) (efL l) w (.returned (.tuple #[v, .int .i64 0])) w' from fun v w' h1 h2 => by
      have e2 : efL l = (eff l).map fun i : Nat => (i : Int) := by unfold efL; rw [if_pos (erC_ok hwf)]
      rw [erC_ok hwf, e2]
      exact ⟨_, rfl, h1, h2⟩)
    clear hwf
    go_enter Try.func17, Try.ntmps17
    go_wp2_with fail
    refine CC.out.mono ?_
    rintro e w1 ⟨rfl, b1⟩
    have B1 := Lib.hid (bel_bel B0.out b1)
    have HR1 := Lib.hid (HR.out.below b1)
    have c1 : w1.cell? ⟨w.heap.size, 0, none⟩ = some (.slice A n c) := (b1.cell (p := ⟨w.heap.size, 0, none⟩) (by simp)).trans HCX.out
    have hs1 : w.heap.size < w1.heap.size := cell_lt c1
    clear b1 CC HR B0
    go_wp2_with fail
    refine (CH _ HR1.out).out.mono ?_
    rintro e w2 ⟨v, rfl, ow, b2⟩
    rw [HID.out] at ow
    have OW := Lib.hid ow
    have B2 := Lib.hid b2
    have HR2 := Lib.hid (HR1.out.below b2)
    have C2 := Lib.hid ((b2.cell (p := ⟨w.heap.size, 0, none⟩) hs1).trans c1)
    clear ow b2 c1 CH
    have hlen : ((took l).map fun i : Nat => (i : Int)).length = (took l).length := by simp
    have hpl : (eff l).length = (took l).length := (eff_perm l).length_eq
    by_cases h0 : (took l).length = 0
    · have e0 : took l = [] := List.eq_nil_of_length_eq_zero h0
      have e1 : eff l = [] := List.eq_nil_of_length_eq_zero (hpl.trans h0)
      rw [e0] at OW
      rw [e1] at HP
      have ow := OW.out
      obtain ⟨_, A2, c2, rfl, _⟩ := KI.row ow
      have CS := Lib.hid (AnyF.slices_SortFunc_none (P := Try.prog) (ρ := Try.sortI_ren) { Try.sortI with } A2 c2 (.func (.func 42) #[] #[.pointer (some ⟨w.heap.size, 0, none⟩)]) w2)
      have OW2 := Lib.hid ow
      clear ow OW hlen hpl h0 e0 e1 HID
      go_wp2_with fail
      refine CS.out.mono ?_
      rintro e w3 ⟨rfl, rfl⟩
      go_wp2
      go_ret2
      exact HP.out _ _ (row_base OW2.out (Nat.le_trans B1.out.size (Nat.le_refl _))) (bel_bel B1.out B2.out)
    · have ow := OW.out
      rw [hlen] at ow
      obtain ⟨q, hq⟩ : ∃ q, (took l).length = q := ⟨_, rfl⟩
      have hq0 : 0 < q := by omega
      obtain ⟨q', rfl⟩ : ∃ q', q = q' + 1 := ⟨q - 1, by omega⟩
      have ow2 := ow
      rw [hq] at ow2
      obtain ⟨g, cap, rfl⟩ := ownsRow_succ ow2
      have hl0 : 0 < l.length := by
        have := List.length_filter_le (fun i => decide (0 ≤ tk l i)) (List.range l.length)
        rw [List.length_range] at this
        unfold took at hq
        omega
      have CS := Lib.hid (sort_any l n w.heap.size g cap c (q' + 1) A w2 w1.heap.size HL.out hx HW.out hq C2.out HR2.out (fun a e => Nat.lt_trans (HBA.out hl0 a e) hs1) hs1 ow2 hq0)
      have HQ := Lib.hid (show ((eff l).map fun i : Nat => (i : Int)).length = q' + 1 by rw [List.length_map, hpl, hq])
      clear ow ow2 OW hlen hpl h0 HID hq hl0 hq0
      go_wp2_with fail
      refine CS.out.mono ?_
      rintro e w3 ⟨rfl, ow3, b3⟩
      have OW3 := Lib.hid ow3
      have B3 := Lib.hid b3
      clear ow3 b3 CS
      go_wp2
      go_ret2
      exact HP.out _ _ (by rw [HQ.out]; exact row_base OW3.out B1.out.size) (bel_bel B1.out (B2.out.trans B3.out))
  · rw [erC_no hwf] at CC
    have HP := Lib.hid (show ∀ w', Below w.heap.size w w' → RwPost KI (erC l) (efL l) w (.returned (.tuple #[.slice none 0 0, .int .i64 15])) w' from fun w' h => by
      have e2 : efL l = [] := by unfold efL; rw [if_neg (by rw [erC_no hwf]; decide)]
      rw [erC_no hwf, e2]
      exact ⟨_, rfl, KI.nil _ _, h⟩)
    clear hwf
    go_enter Try.func17, Try.ntmps17
    go_wp2_with fail
    refine CC.out.mono ?_
    rintro e w1 ⟨rfl, b1⟩
    have B1 := Lib.hid (bel_bel B0.out b1)
    clear b1 B0
    go_wp2
    go_ret2
    exact HP.out _ B1.out
end Hi
end Go.Proofs.Ytgfhfcjjodcgdaa
