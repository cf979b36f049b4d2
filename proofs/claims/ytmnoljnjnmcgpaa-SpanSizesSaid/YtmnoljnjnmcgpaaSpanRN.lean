/- leapfrogref02.Normalize: contract of the translated code. Conditions: at most 1000 ranges; the bounds of each end's kind. -/
import Derived.Test.YtmnoljnjnmcgpaaSpanR
import Derived.Deep.RegionHeld3
import Derived.Deep.AppendLies
namespace Go.Proofs.Ytmnoljnjnmcgpaa
open Go.RowKit Go.Sort
set_option linter.unusedVariables false
set_option linter.unusedSimpArgs false
namespace Sp
theorem touchR_is {a x : Sp} {r : Bool} (q0 : 0 ≤ a.1) (q1 : a.1 ≤ 18446744073709551615) (q2 : 0 ≤ a.2) (q3 : a.2 ≤ 18446744073709551615) (d0 : 0 ≤ x.1) (d1 : x.1 ≤ 18446744073709551615) (d2 : 0 ≤ x.2) (d3 : x.2 ≤ 18446744073709551615) (ha : a.1 ≤ a.2) (hx : x.1 ≤ x.2) (hr : touch a x = r) :
    ∀ W : World, Calls Try.prog 42 #[.agg #[.int .u64 a.1, .int .u64 a.2], .agg #[.int .u64 x.1, .int .u64 x.2]] W fun e w' => e = .returned (.bool r) ∧ Below W.heap.size W w' := fun W => by
  have h := touchR_any a.1 a.2 x.1 x.2 q0 q1 q2 q3 d0 d1 d2 d3 ha hx W
  rw [show touch (a.1, a.2) (x.1, x.2) = r from hr] at h
  exact h
theorem hullR_is {a x : Sp} (q0 : 0 ≤ a.1) (q1 : a.1 ≤ 18446744073709551615) (q2 : 0 ≤ a.2) (q3 : a.2 ≤ 18446744073709551615) (d0 : 0 ≤ x.1) (d1 : x.1 ≤ 18446744073709551615) (d2 : 0 ≤ x.2) (d3 : x.2 ≤ 18446744073709551615) (ha : a.1 ≤ a.2) (hx : x.1 ≤ x.2) :
    ∀ W : World, Calls Try.prog 21 #[.agg #[.int .u64 a.1, .int .u64 a.2], .agg #[.int .u64 x.1, .int .u64 x.2]] W fun e w' => e = .returned (.tuple #[.agg #[.int .u64 (hull a x).1, .int .u64 (hull a x).2], .int .i64 0]) ∧ Below W.heap.size W w' := fun W => by
  have h := hullR_any a.1 a.2 x.1 x.2 q0 q1 q2 q3 d0 d1 d2 d3 W
  have hb : huB a.1 a.2 x.1 x.2 = true := decide_eq_true ⟨ha, hx⟩
  rw [show huL a.1 a.2 x.1 x.2 = (hull a x).1 by rw [huL, if_pos hb]; rfl, show huH a.1 a.2 x.1 x.2 = (hull a x).2 by rw [huH, if_pos hb]; rfl, show huE a.1 a.2 x.1 x.2 = 0 by rw [huE, if_pos hb]] at h
  exact h
/-- s and the rest after j ranges of out -/
def jn (out : List Sp) (x : Sp) (j : Nat) : Sp × List Sp := (out.take j).foldl join1 (x, [])
theorem jn_succ {out : List Sp} {x y : Sp} {j : Nat} (h : out[j]? = some y) : jn out x (j + 1) = join1 (jn out x j) y := by
  rw [jn, take_succ' h, List.foldl_append]; rfl
theorem jn_hit {out : List Sp} {x y : Sp} {j : Nat} (h : out[j]? = some y) (ht : touch y (jn out x j).1 = true) : jn out x (j + 1) = (hull y (jn out x j).1, (jn out x j).2) := by
  rw [jn_succ h, join1, if_pos ht]
theorem jn_miss {out : List Sp} {x y : Sp} {j : Nat} (h : out[j]? = some y) (ht : touch y (jn out x j).1 = false) : jn out x (j + 1) = ((jn out x j).1, (jn out x j).2 ++ [y]) := by
  rw [jn_succ h, join1, if_neg (by rw [ht]; decide)]
theorem jn_all {out : List Sp} {x : Sp} {j : Nat} (h : out.length ≤ j) : jn out x j = joins out x := by
  rw [jn, List.take_of_length_le h]; rfl
def B1 (x : Sp) : Prop := 0 ≤ x.1 ∧ x.1 ≤ 18446744073709551615 ∧ 0 ≤ x.2 ∧ x.2 ≤ 18446744073709551615
theorem B1.hull {a x : Sp} (h : B1 a) (k : B1 x) : B1 (hull a x) := by
  simp only [B1, Sp.hull] at *; omega
theorem insert_len : ∀ (l : List Sp) (s : Sp), (put l s).length = l.length + 1
  | [], s => rfl
  | x :: l, s => by
    unfold put
    split
    · rfl
    · rw [List.length_cons, insert_len l s]; rfl
theorem joins_len : ∀ (out : List Sp) (st : Sp × List Sp), (out.foldl join1 st).2.length ≤ st.2.length + out.length
  | [], st => by simp
  | y :: out, st => by
    rw [List.foldl_cons]
    have := joins_len out (join1 st y)
    have h2 : (join1 st y).2.length ≤ st.2.length + 1 := by unfold join1; split <;> simp
    simp only [List.length_cons]
    omega
theorem joins_bd : ∀ (out : List Sp) (st : Sp × List Sp), Bd out → B1 st.1 → Bd st.2 → B1 (out.foldl join1 st).1 ∧ Bd (out.foldl join1 st).2
  | [], st, _, h1, h2 => ⟨h1, h2⟩
  | y :: out, st, h, h1, h2 => by
    rw [List.foldl_cons]
    have hy : B1 y := h y (by simp)
    refine joins_bd out (join1 st y) (fun x hx => h x (by simp [hx])) ?_ ?_
    · unfold join1; split
      · exact hy.hull h1
      · exact h1
    · unfold join1; split
      · exact h2
      · intro x hx
        rcases List.mem_append.1 hx with hx | hx
        · exact h2 x hx
        · simp at hx; subst hx; exact hy
theorem jn_bd {out : List Sp} {x : Sp} (j : Nat) (h : Bd out) (hx : B1 x) : B1 (jn out x j).1 ∧ Bd (jn out x j).2 :=
  joins_bd (out.take j) (x, []) (fun y hy => h y (List.mem_of_mem_take hy)) hx (fun y hy => by cases hy)
theorem jn_ok {out : List Sp} {x : Sp} (j : Nat) (h : Nrm out) (hx : x.1 ≤ x.2) : (jn out x j).1.1 ≤ (jn out x j).1.2 := by
  have hn : Nrm ([] ++ out.take j) := by
    have := (Nrm.append_iff (out.take j) (out.drop j)).1 (by rw [List.take_append_drop]; exact h)
    exact this.1
  exact (joins_aux (out.take j) [] x hn hx (by simp [Apart])).1
theorem jn_len (out : List Sp) (x : Sp) (j : Nat) : (jn out x j).2.length ≤ j := by
  have := joins_len (out.take j) (x, [])
  simp only [List.length_nil, Nat.zero_add, List.length_take] at this
  exact Nat.le_trans this (Nat.min_le_left _ _)
/-- the ranges so far, range by range -/
def nk (l : List Sp) (k : Nat) : List Sp := norm (l.take k)
theorem nk_succ {l : List Sp} {k : Nat} {x : Sp} (h : l[k]? = some x) : nk l (k + 1) = insert1 (nk l k) x := by
  rw [nk, take_succ' h, norm, List.foldl_append]; rfl
theorem nk_all {l : List Sp} {k : Nat} (h : l.length ≤ k) : nk l k = norm l := by rw [nk, List.take_of_length_le h]
theorem nk_nrm {l : List Sp} (h : Ok l) (k : Nat) : Nrm (nk l k) := (norm_nrm fun x hx => h x (List.mem_of_mem_take hx)).1
theorem nk_len (l : List Sp) : ∀ k, k ≤ l.length → (nk l k).length ≤ k
  | 0, _ => by simp [nk, norm]
  | k + 1, hk => by
    rw [nk_succ (List.getElem?_eq_getElem (by omega)), insert1, insert_len]
    have := nk_len l k (by omega)
    have := joins_len (nk l k) (l[k], [])
    simp only [joins, List.length_nil] at this ⊢
    omega
theorem put_bd {l : List Sp} {s : Sp} (h : Bd l) (hs : B1 s) : Bd (put l s) := fun x hx => by
  rcases put_mem l s x hx with rfl | hx
  · exact hs
  · exact h x hx
theorem nk_bd {l : List Sp} (h : Bd l) : ∀ k, k ≤ l.length → Bd (nk l k)
  | 0, _ => by simp [nk, norm, Bd]
  | k + 1, hk => by
    rw [nk_succ (List.getElem?_eq_getElem (by omega)), insert1]
    have := joins_bd (nk l k) (l[k], []) (nk_bd h k (by omega)) (h _ (List.getElem_mem _)) (fun y hy => by cases hy)
    exact put_bd this.2 this.1
def RPost (w : World) (l : List Sp) (e : Ending) (w' : World) : Prop :=
  ∃ A c, e = .returned (.tuple #[.slice A (nrm l).length c, .int .i64 (caE l)]) ∧ Rd w' A (nrm l) ∧ Below w.heap.size w w'
theorem row_below {w w' : World} {B n : Nat} {t : TypeId} {v : Value} {xs : List Value} (h : w.ownsRow B t 2 v n xs) (hb : Below w.heap.size w w') : w'.ownsRow B t 2 v n xs := by
  refine ⟨h.1, ?_⟩
  rcases h.2 with h' | ⟨g, cap, cur, e, hbase, hh, r⟩
  · exact .inl h'
  · subst e
    exact .inr ⟨g, cap, cur, rfl, hbase, (hb.block g (h.lt g rfl).2).trans hh, r⟩
theorem row_set {w : World} {B n : Nat} {t : TypeId} {v : Value} {xs : List Value} (h : w.ownsRow B t 2 v n xs) {p : Addr} (hp : p.block < B) (u : Value) : (w.setCell p u).ownsRow B t 2 v n xs := by
  refine ⟨h.1, ?_⟩
  rcases h.2 with h' | ⟨g, cap, cur, e, hbase, hh, r⟩
  · exact .inl h'
  · exact .inr ⟨g, cap, cur, e, hbase, (Below.heap_setCell w p u g (by omega)).trans hh, r⟩
theorem normalizeR_no (A : Option Addr) (n c : Nat) (l : List Sp) (w : World) (hn : l.length = n) (hs : n ≤ 1000) (hr : Rd w A l) (hok : okB l = false) :
    Calls Try.prog 28 #[.slice A n c] w (RPost w l) := by
  have HE := Lib.hid (show caE l = 13 by rw [caE, hok]; rfl)
  have HO := Lib.hid hok; clear hok
  have HR := Lib.hid hr; clear hr
  have HN := Lib.hid hn; clear hn
  go_enter Try.func28, Try.ntmps28
  go_wp2_with fail
  refine (all_any A n c l w HN.out (by unfold maxLen; omega) HR.out).mono ?_
  rw [HO.out]
  rintro r w1 ⟨rfl, b1⟩
  go_wp2
  go_ret2
  refine ⟨none, 0, ?_, ?_, b1⟩
  · rw [nrm_no HO.out, HE.out]; rfl
  · rw [nrm_no HO.out]; intro k x hk; simp at hk
set_option maxHeartbeats 2000000 in
theorem normalizeR_yes (A : Option Addr) (n c : Nat) (l : List Sp) (w : World) (hn : l.length = n) (hs : n ≤ 1000) (hr : Rd w A l) (hd : Bd l) (hok : okB l = true) :
    Calls Try.prog 28 #[.slice A n c] w (RPost w l) := by
  have HE := Lib.hid (show caE l = 0 by rw [caE, hok]; rfl)
  have HK := Lib.hid ((okB_iff l).1 hok)
  have HO := Lib.hid hok; clear hok
  have HR := Lib.hid hr; clear hr
  have HD := Lib.hid hd; clear hd
  have HN := Lib.hid hn; clear hn
  have hn1 : (n : Int) ≤ 1000 := by omega
  go_enter Try.func28, Try.ntmps28
  go_wp2_with fail
  refine (all_any A n c l w HN.out (by unfold maxLen; omega) HR.out).mono ?_
  rw [HO.out]
  rintro r w1 ⟨rfl, b1⟩
  go_wp2
  go_loopw [4, 5] (fun v i wr => ∃ (k : Nat) (A4 : Option Addr) (c4 : Nat), k ≤ n ∧ i = .int .i64 k ∧ v = .slice A4 (nk l k).length c4 ∧ Rd wr A4 (nk l k) ∧ Below w.heap.size w wr) (fun _ i _ => n - (intOf i).toNat)
  case atStart => exact ⟨0, none, 0, Nat.zero_le _, rfl, rfl, fun k x hk => by simp [nk, norm] at hk, b1⟩
  case round =>
    obtain ⟨k, A4, c4, hk, rfl, rfl, rd4, bel⟩ := hrel
    obtain ⟨wo, rfl⟩ : ∃ wo : World, wo = wr := ⟨_, rfl⟩
    by_cases hlt : k < n
    · obtain ⟨x, hx, hm⟩ := getElem?_lt HN.out hlt
      obtain ⟨d0, d1, d2, d3⟩ := HD.out x hm
      have hxv : x.1 ≤ x.2 := HK.out x hm
      have HX := Lib.hid hx; clear hx hm
      obtain ⟨b, o, rfl, c0, c1⟩ := (HR.out.below bel) k x HX.out
      obtain ⟨out, hout⟩ : ∃ out, out = nk l k := ⟨_, rfl⟩
      have nrm0 : Nrm out := by rw [hout]; exact nk_nrm HK.out k
      have bd0 : Bd out := by rw [hout]; exact nk_bd HD.out k (by have := HN.out; omega)
      have len0 : out.length ≤ k := by rw [hout]; exact nk_len l k (by have := HN.out; omega)
      rw [← hout] at rd4 ⊢
      have HOUT := Lib.hid hout; clear hout
      have NRM := Lib.hid nrm0; clear nrm0
      have BD := Lib.hid bd0; clear bd0
      have RD := Lib.hid rd4; clear rd4
      have hl1 : (out.length : Int) ≤ 1000 := by omega
      go_wp2
      go_loopw [7, 8] (fun v i wq => ∃ j : Nat, j ≤ out.length ∧ i = .int .i64 j ∧ wq.ownsRow (wo.heap.size + 1) 24 2 v (jn out x j).2.length (flat (jn out x j).2) ∧ Below wo.heap.size wo wq ∧ wo.heap.size + 1 ≤ wq.heap.size ∧
          wq.cell? ⟨wo.heap.size, 0, none⟩ = some (.int .u64 (jn out x j).1.1) ∧ wq.cell? ⟨wo.heap.size, 1, none⟩ = some (.int .u64 (jn out x j).1.2) ∧ wq.frozen? ⟨wo.heap.size, 0, none⟩ = false ∧ wq.frozen? ⟨wo.heap.size, 1, none⟩ = false) (fun _ i _ => out.length - (intOf i).toNat)
      case atStart =>
        exact ⟨0, Nat.zero_le _, rfl, World.ownsRow_nil _ _ _ _, (Below.refl _ _).alloc (Nat.le_refl _) _, by simp, by simp [jn], by simp [jn], by simp [go_sem], by simp [go_sem]⟩
      case round =>
        obtain ⟨j, hj, rfl, hown, belq, hzq, t0, t1, f0, f1⟩ := hrel
        have OW := Lib.hid hown; clear hown
        by_cases hjl : j < out.length
        · obtain ⟨y, hy, hym⟩ := getElem?_lt rfl hjl
          obtain ⟨q0, q1, q2, q3⟩ := BD.out y hym
          have hyv : y.1 ≤ y.2 := NRM.out.1 y hym
          have HY := Lib.hid hy; clear hy hym
          obtain ⟨s0, s1, s2, s3⟩ := (jn_bd j BD.out ⟨d0, d1, d2, d3⟩).1
          have hsv := jn_ok j NRM.out hxv
          obtain ⟨b4, o4, rfl, e0, e1⟩ := (RD.out.below belq) j y HY.out
          cases ht : touch y (jn out x j).1 with
          | true =>
            have HT := Lib.hid (touchR_is q0 q1 q2 q3 s0 s1 s2 s3 hyv hsv ht)
            have HH := Lib.hid (hullR_is q0 q1 q2 q3 s0 s1 s2 s3 hyv hsv)
            have HJ := Lib.hid (jn_hit HY.out ht); clear ht
            have k0 := cell_regrown e0
            have k1 := cell_regrown e1
            have k2 := cell_regrown t0
            have k3 := cell_regrown t1
            go_wp2
            refine wp_region_quiet_below (by kernel_rfl) (by kernel_rfl) ?_
            repeat (quiet_step ((go_at_call 42; exact Calls.regrown_of (HT.out _))))
            refine wpQuiet_nil ?_
            intro _ hw'
            obtain ⟨⟨dq, osq⟩, hw''⟩ := hw'
            subst hw''
            clear k0 k1
            have b2 := below_regrown wr dq osq
            replace k2 := k2 dq osq
            replace k3 := k3 dq osq
            show Exit.then _ _ Exit.normal _ (grow (redrawn wr dq) osq)
            have OW2 := Lib.hid (row_below OW.out b2)
            have belq2 := belq.trans (b2.mono (by omega))
            have g0 : (grow (redrawn wr dq) osq).frozen? ⟨wo.heap.size, 0, none⟩ = false := by rw [b2.frozen (p := ⟨wo.heap.size, 0, none⟩) (by simp; omega)]; exact f0
            have g1 : (grow (redrawn wr dq) osq).frozen? ⟨wo.heap.size, 1, none⟩ = false := by rw [b2.frozen (p := ⟨wo.heap.size, 1, none⟩) (by simp; omega)]; exact f1
            have hzq2 : wo.heap.size + 1 ≤ (grow (redrawn wr dq) osq).heap.size := Nat.le_trans hzq b2.size
            clear b2 OW belq hzq t0 t1 f0 f1 e0 e1
            generalize grow (redrawn wr dq) osq = w2 at k2 k3 g0 g1 OW2 belq2 hzq2 ⊢
            obtain ⟨b5, o5, e5, e0, e1⟩ := (RD.out.below belq2) j y HY.out
            cases e5
            go_wp2
            go_region_law ((go_simp; go_at_call 21; refine (HH.out _).mono ?_; rintro r w3 ⟨rfl, b3⟩; have m0 := (b3.cell (World.block_lt_of_cell? _ _ e0)).trans e0; have m1 := (b3.cell (World.block_lt_of_cell? _ _ e1)).trans e1; have m2 := (b3.cell (World.block_lt_of_cell? _ _ k2)).trans k2; have m3 := (b3.cell (World.block_lt_of_cell? _ _ k3)).trans k3; have n0 := (b3.frozen (World.block_lt_of_cell? _ _ k2)).trans g0; have n1 := (b3.frozen (World.block_lt_of_cell? _ _ k3)).trans g1))
            all_goals
              go_wp2
              go_roundw
              case rel =>
                refine ⟨j + 1, by omega, by go_num, ?_, ?_, ?_, ?_, ?_, ?_, ?_⟩
                · rw [HJ.out]
                  exact row_set (row_set (row_below OW2.out.drew b3) (by simp) _) (by simp) _
                · exact (((show Below wo.heap.size wo w2.drew from below_drewN belq2 1).trans (b3.mono (by simp; omega))).setCell (by simp) _).setCell (by simp) _
                · have := b3.size; simp at this ⊢; omega
                · rw [HJ.out, World.cell?_setCell_other _ _ _ _ (by simp)]
                  exact World.cell?_setCell_same _ _ _ m2
                · rw [HJ.out]
                  exact World.cell?_setCell_same _ _ _ (by rw [World.cell?_setCell_other _ _ _ _ (by simp)]; exact m3)
                · rw [frozen_set, frozen_set]; exact n0
                · rw [frozen_set, frozen_set]; exact n1
              case measure => simp [intOf]; omega
          | false =>
            have HT := Lib.hid (touchR_is q0 q1 q2 q3 s0 s1 s2 s3 hyv hsv ht)
            have HJ := Lib.hid (jn_miss HY.out ht); clear ht
            have hjl2 := jn_len out x j
            have k0 := cell_regrown e0
            have k1 := cell_regrown e1
            have k2 := cell_regrown t0
            have k3 := cell_regrown t1
            go_wp2
            refine wp_region_quiet_below (by kernel_rfl) (by kernel_rfl) ?_
            repeat (quiet_step ((go_at_call 42; exact Calls.regrown_of (HT.out _))))
            refine wpQuiet_nil ?_
            intro _ hw'
            obtain ⟨⟨dq, osq⟩, hw''⟩ := hw'
            subst hw''
            clear k0 k1
            have b2 := below_regrown wr dq osq
            replace k2 := k2 dq osq
            replace k3 := k3 dq osq
            show Exit.then _ _ Exit.normal _ (grow (redrawn wr dq) osq)
            have OW2 := Lib.hid (row_below OW.out b2)
            have belq2 := belq.trans (b2.mono (by omega))
            have g0 : (grow (redrawn wr dq) osq).frozen? ⟨wo.heap.size, 0, none⟩ = false := by rw [b2.frozen (p := ⟨wo.heap.size, 0, none⟩) (by simp; omega)]; exact f0
            have g1 : (grow (redrawn wr dq) osq).frozen? ⟨wo.heap.size, 1, none⟩ = false := by rw [b2.frozen (p := ⟨wo.heap.size, 1, none⟩) (by simp; omega)]; exact f1
            have hzq2 : wo.heap.size + 1 ≤ (grow (redrawn wr dq) osq).heap.size := Nat.le_trans hzq b2.size
            clear b2 OW belq hzq t0 t1 f0 f1 e0 e1
            generalize grow (redrawn wr dq) osq = w2 at k2 k3 g0 g1 OW2 belq2 hzq2 ⊢
            obtain ⟨b5, o5, e5, e0, e1⟩ := (RD.out.below belq2) j y HY.out
            cases e5
            go_wp2_with (at_builtin; refine app1 rfl (.tmp 43) (.tmp 48) rfl w2 (wo.heap.size + 1) (jn out x j).2.length _ (jn out x j).2 y rfl rfl OW2.out (by omega) hzq2 ?_; intro v1 w3 h1 b3)
            go_roundw
            case rel =>
              refine ⟨j + 1, by omega, by go_num, ?_, ?_, ?_, ?_, ?_, ?_, ?_⟩
              · rw [HJ.out]; simpa using h1
              · exact belq2.trans (b3.mono (by omega))
              · exact Nat.le_trans hzq2 b3.size
              · rw [HJ.out, b3.cell (p := ⟨wo.heap.size, 0, none⟩) (by simp)]; exact k2
              · rw [HJ.out, b3.cell (p := ⟨wo.heap.size, 1, none⟩) (by simp)]; exact k3
              · rw [b3.frozen (p := ⟨wo.heap.size, 0, none⟩) (by simp)]; exact g0
              · rw [b3.frozen (p := ⟨wo.heap.size, 1, none⟩) (by simp)]; exact g1
            case measure => simp [intOf]; omega
        · obtain rfl : j = out.length := by omega
          have HJ := Lib.hid (jn_all (x := x) (Nat.le_refl out.length))
          have hjl2 := jn_len out x out.length
          have ow := OW.out
          obtain ⟨hl7, A7, c7, e7, hc7, rd7, _⟩ := row_form ow
          subst e7
          have belw : Below w.heap.size w wr := bel.trans (belq.mono bel.size)
          clear ow
          go_wp2_with fail
          refine (put_any A7 (jn out x out.length).2.length c7 (jn out x out.length).2 (jn out x out.length).1 wr rfl (by omega) rd7).mono ?_
          rintro r w4 ⟨v8, rfl, ow8, b8⟩
          have he : put (jn out x out.length).2 (jn out x out.length).1 = nk l (k + 1) := by rw [HJ.out, nk_succ HX.out, ← HOUT.out]; rfl
          rw [he] at ow8
          obtain ⟨hl8, A8, c8, e8, hc8, rd8, _⟩ := row_form ow8
          subst e8
          clear ow8 he
          go_wp2
          go_roundw
          case rel => exact ⟨k + 1, A8, c8, by omega, by go_num, rfl, rd8, belw.trans (b8.mono belw.size)⟩
          case measure => simp [intOf]; omega
    · have hkn : k = n := by omega
      subst hkn
      go_wp2
      go_ret2
      have e := nk_all (l := l) (k := k) (by have := HN.out; omega)
      refine ⟨A4, c4, ?_, ?_, bel⟩
      · rw [nrm_ok HO.out, HE.out, ← e]; rfl
      · rw [nrm_ok HO.out, ← e]; exact rd4
end Sp
end Go.Proofs.Ytmnoljnjnmcgpaa
