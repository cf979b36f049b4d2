/- parts of leapfroglaw14: contract of the translated code. Conditions: the run's invariant; at most 40 towers. (Written by tools/mkps12.py.) -/
import Derived.Test.YtcipjjchclpgnaaPsJ
namespace Go.Proofs.Ytcipjjchclpgnaa
open Go.RowKit Go.Sort
set_option linter.unusedVariables false
set_option linter.unusedSimpArgs false
set_option maxRecDepth 100000
namespace Po
open Wd
open Ly (Ge tot pP pK pW pk Cf LyAt KI)
open Dm (addr_lit info_parts spot_none RdK flatU infoU bel_alloc bel_trans own_keep below_drewN)
/-! ### lists of towers -/
def cat (stk : Nat → List Nat) : Nat → List Nat
  | 0 => []
  | k + 1 => cat stk k ++ stk k
theorem mem_cat {stk : Nat → List Nat} {x : Nat} : ∀ {k : Nat}, x ∈ cat stk k ↔ ∃ j, j < k ∧ x ∈ stk j
  | 0 => by simp [cat]
  | k + 1 => by
    rw [cat, List.mem_append, mem_cat]
    constructor
    · rintro (⟨j, h1, h2⟩ | h)
      · exact ⟨j, by omega, h2⟩
      · exact ⟨k, by omega, h⟩
    · rintro ⟨j, h1, h2⟩
      by_cases e : j = k
      · subst e; exact .inr h2
      · exact .inl ⟨j, by omega, h2⟩
def ind (L : List Nat) (x : Nat) : Int := if x ∈ L then 1 else 0
theorem ind_push {L : List Nat} {y : Nat} (h : y ∉ L) : set (ind L) y (ind L y + 1) = ind (L ++ [y]) := by
  funext x
  by_cases e : x = y
  · subst e; rw [set_same]; unfold ind; rw [if_neg h, if_pos (by simp)]; rfl
  · rw [set_other e]; unfold ind
    by_cases hx : x ∈ L
    · rw [if_pos hx, if_pos (by simp [hx])]
    · rw [if_neg hx, if_neg (by simp [hx, e])]
theorem take_push {l : List Nat} {i y : Nat} (h : l[i]? = some y) : l.take (i + 1) = l.take i ++ [y] := by
  have hi := (List.getElem?_eq_some_iff.1 h).1
  have he := (List.getElem?_eq_some_iff.1 h).2
  rw [← List.take_append_getElem hi, he]
theorem not_take {l : List Nat} {i y : Nat} (hn : l.Nodup) (h : l[i]? = some y) : y ∉ l.take i := fun hm => by
  have h1 := hn.sublist (List.take_sublist (i + 1) l)
  rw [take_push h, List.nodup_append] at h1
  exact h1.2.2 y hm y (by simp) rfl
def outN (S : Pm) : Nat → List Nat
  | 0 => []
  | t + 1 => outN S t ++ (if 1 ≤ t ∧ S.tk t = true then [t] else [])
theorem outL_N (S : Pm) : ∀ m, outL S m = nums (outN S m)
  | 0 => rfl
  | m + 1 => by
    rw [outL, outN, outL_N S m]
    unfold nums
    rw [List.map_append]
    split <;> rfl
theorem mem_outN {S : Pm} {x : Nat} : ∀ {m : Nat}, x ∈ outN S m ↔ 1 ≤ x ∧ x < m ∧ S.tk x = true
  | 0 => by simp [outN]
  | m + 1 => by
    rw [outN, List.mem_append, mem_outN]
    constructor
    · rintro (⟨h1, h2, h3⟩ | h)
      · exact ⟨h1, by omega, h3⟩
      · split at h
        · simp at h; subst h; rename_i q; exact ⟨q.1, by omega, q.2⟩
        · simp at h
    · rintro ⟨h1, h2, h3⟩
      by_cases e : x = m
      · subst e; right; rw [if_pos ⟨h1, h3⟩]; simp
      · left; exact ⟨h1, by omega, h3⟩
theorem nodup_outN (S : Pm) : ∀ m, (outN S m).Nodup
  | 0 => List.nodup_nil
  | m + 1 => by
    rw [outN, List.nodup_append]
    refine ⟨nodup_outN S m, by split <;> simp, fun x hx y hy => ?_⟩
    have := (mem_outN.1 hx).2.1
    split at hy
    · simp at hy; omega
    · simp at hy
/-! ### an array of 64 ints -/
structure Ar (w : World) (A : Nat) (f : Nat → Int) : Prop where
  c : ∀ i, i < 64 → w.cell? ⟨A, i, none⟩ = some (.int .i64 (f i))
  z : ∀ i, w.frozen? ⟨A, i, none⟩ = false
theorem Ar.lt {w : World} {A : Nat} {f : Nat → Int} (h : Ar w A f) : A < w.heap.size := World.block_lt_of_cell? w ⟨A, 0, none⟩ (h.c 0 (by omega))
theorem Ar.keep {w w' : World} {A : Nat} {f : Nat → Int} (h : Ar w A f) (hb : w'.heap[A]? = w.heap[A]?) : Ar w' A f := ⟨fun i hi => (World.cell?_of_block (a := ⟨A, i, none⟩) hb).trans (h.c i hi), fun i => (World.frozen?_of_block (a := ⟨A, i, none⟩) hb).trans (h.z i)⟩
theorem Ar.below {w w' : World} {A : Nat} {f : Nat → Int} (h : Ar w A f) (hb : Below w.heap.size w w') : Ar w' A f := h.keep (hb.block A h.lt)
theorem Ar.set {w : World} {A : Nat} {f : Nat → Int} (h : Ar w A f) {x : Nat} (hx : x < 64) (v : Int) : Ar (w.setCell ⟨A, x, none⟩ (.int .i64 v)) A (Po.set f x v) := ⟨fun i hi => by
  by_cases e : i = x
  · subst e; rw [set_same]; exact World.cell?_setCell_same _ _ _ (h.c i hi)
  · rw [set_other e]; exact (oth (fun q => e q.symm)).trans (h.c i hi), fun i => frz (h.z i)⟩
def Z64 : Array Value := #[.int .i64 0, .int .i64 0, .int .i64 0, .int .i64 0, .int .i64 0, .int .i64 0, .int .i64 0, .int .i64 0, .int .i64 0, .int .i64 0, .int .i64 0, .int .i64 0, .int .i64 0, .int .i64 0, .int .i64 0, .int .i64 0, .int .i64 0, .int .i64 0, .int .i64 0, .int .i64 0, .int .i64 0, .int .i64 0, .int .i64 0, .int .i64 0, .int .i64 0, .int .i64 0, .int .i64 0, .int .i64 0, .int .i64 0, .int .i64 0, .int .i64 0, .int .i64 0, .int .i64 0, .int .i64 0, .int .i64 0, .int .i64 0, .int .i64 0, .int .i64 0, .int .i64 0, .int .i64 0, .int .i64 0, .int .i64 0, .int .i64 0, .int .i64 0, .int .i64 0, .int .i64 0, .int .i64 0, .int .i64 0, .int .i64 0, .int .i64 0, .int .i64 0, .int .i64 0, .int .i64 0, .int .i64 0, .int .i64 0, .int .i64 0, .int .i64 0, .int .i64 0, .int .i64 0, .int .i64 0, .int .i64 0, .int .i64 0, .int .i64 0, .int .i64 0]
theorem z64 (i : Nat) (hi : i < 64) : Z64[i]? = some (.int .i64 0) := by
  have : Z64 = (List.replicate 64 (Value.int .i64 0)).toArray := rfl
  rw [this, List.getElem?_toArray, List.getElem?_replicate, if_pos hi]
theorem Ar.new (w : World) (T : TypeId) : Ar (w.alloc (.cells Z64 T)) w.heap.size (fun _ => 0) := ⟨fun i hi => (World.cell?_alloc_new _ _ _ _).trans (z64 i hi), fun i => froz_heap (heap_alloc_new w _)⟩
theorem zv64 (w : World) : (zeroValue 67).run Try.prog w = .ok (.agg Z64) w := by kernel_rfl
section
variable {K : Kc} {b : Nat} {w : World} {c : Nat → Nat} {S : Pm} {X : Nat → Option Op} {a : Nat → Nat} {stk : Nat → List Nat} {sw : Nat → Nat} {B : Nat} {of : Nat → Int} {mn sk : Nat → Value} {mine : Nat → List Nat} {sn st : Nat → Int}
set_option maxHeartbeats 4000000 in
theorem parts_any (h : RI K b w c S X a stk sw B of mn sk mine sn st) (h40 : tot K.g.t 6 ≤ 40) : Calls Try.prog 25 #[.pointer (some ⟨b, 0, none⟩)] w fun e w' => e = .returned (.bool true) ∧ Below w.heap.size w w' := by
  have HI := Lib.hid h
  have H40 := Lib.hid h40
  have hA0 := Ar.new w 67
  have hB0 : Below w.heap.size w (w.alloc (.cells Z64 67)) := bel_new (Below.refl _ _) _
  have e0 : (fun _ => 0 : Nat → Int) = ind [] := by funext x; unfold ind; rw [if_neg (by simp)]
  rw [e0] at hA0
  have hzv := zv64
  obtain ⟨A, hA⟩ : ∃ A, A = w.heap.size := ⟨_, rfl⟩
  have HA := Lib.hid hA
  clear h h40 e0 hA
  go_enter Try.func25, Try.ntmps25
  go_upto_region 2 with fail
  clear hzv
  have e0 : (w.alloc (.cells Z64 67)).heap.size = w.heap.size + 1 := World.size_alloc _ _
  generalize w.alloc (.cells Z64 67) = W0 at hA0 hB0 ⊢
  rw [← HA.out] at hA0 ⊢
  have HA0 := Lib.hid hA0
  have HB0 := Lib.hid hB0
  clear hA0 hB0 e0
  go_wp2
  go_loopw [4] (fun vh wr => ∃ k : Nat, vh = .int .i64 ((k + 1 : Nat) : Int) ∧ k ≤ 6 ∧ Ar wr A (ind (cat stk k)) ∧ Below w.heap.size w wr) (fun vh _ => (7 - intOf vh).toNat)
  case atStart => exact ⟨0, rfl, Nat.zero_le _, HA0.out, HB0.out⟩
  case round =>
    obtain ⟨k, rfl, hk, hAr, bel⟩ := hrel
    clear HA0 HB0
    have R := HI.out.below bel
    obtain ⟨wk, hwk⟩ : ∃ W : World, W = wr := ⟨_, rfl⟩
    rw [← hwk] at hAr bel R ⊢
    clear hwk
    by_cases hlt : k < 6
    · obtain ⟨HH, hHH⟩ : ∃ HH, HH = ((k + 1 : Nat) : Int) := ⟨_, rfl⟩
      have CL := listS R.sa R.m.al k hlt
      rw [← hHH] at CL ⊢
      have d0 : decide (HH ≤ 6) = true := decide_eq_true (by omega)
      have HW := Lib.hid (show (IntKind.i64.wrap (HH - 1) = (k : Int) ∧ wrap64 (HH - 1) = (k : Int)) ∧ IntKind.i64.wrap (HH + 1) = HH + 1 ∧ wrap64 (HH + 1) = HH + 1 from ⟨⟨by rw [show HH - 1 = (k : Int) by omega]; exact IntWalk.i64_in _ (by omega), by rw [show HH - 1 = (k : Int) by omega]; exact IntWalk.wrap64_in _ (by omega)⟩, IntWalk.i64_in _ (by omega), IntWalk.wrap64_in _ (by omega)⟩)
      have k6 : (k : Int) < 6 := by omega
      have k0 : (0 : Int) ≤ (k : Int) := by omega
      have p1 := R.rb.p
      have HCL := Lib.hid CL
      have HR := Lib.hid R
      have HAR := Lib.hid hAr
      have HBE := Lib.hid bel
      have HK := Lib.hid hlt
      have HHE := Lib.hid hHH
      clear CL R hAr bel hlt hHH hk
      go_wp2_with fail
      refine HCL.out.mono ?_
      rintro r1 W2 ⟨v, rfl, own, hb2⟩
      have R2 := HR.out.below hb2
      obtain ⟨_, Al, cl, rfl, _, hrd, _, hbase⟩ := KI.row own
      obtain ⟨LN, hLN⟩ : ∃ LN, LN = (stk k).length := ⟨_, rfl⟩
      have hl1 : (nums (stk k)).length = LN := by rw [hLN]; simp [nums]
      have hl2 : (nums (stk k).reverse).length = LN := by rw [hLN]; simp [nums]
      obtain ⟨AS, CP, hsk, hskc, _⟩ := (HI.out.sr k HK.out).form
      rw [hl2] at hsk
      rw [hl1]
      have n26 := R2.rb.sk k HK.out
      rw [hsk] at n26
      have hLM : LN ≤ 1024 := by rw [hLN]; exact Nat.le_trans (nodup_len (tot K.g.t 6) _ (HI.out.m.al.al.i.nd k HK.out) fun m hm => ⟨(HI.out.m.al.al.i.mem k HK.out m hm).1, (HI.out.m.al.al.i.mem k HK.out m hm).2.1⟩) HI.out.m.al.al.i.n1
      have HBL := Lib.hid (HBE.out.trans (hb2.mono HBE.out.size))
      have HRD := Lib.hid hrd
      have HBS := Lib.hid hbase
      have HA2 := Lib.hid (HAR.out.below hb2)
      have HLT := Lib.hid HAR.out.lt
      have HSK := Lib.hid hsk
      have HLNE := Lib.hid hLN
      have HLM := Lib.hid hLM
      clear R2 own hrd hbase hb2 hsk hskc hl1 hl2 hLM hLN p1 HCL HR
      obtain ⟨⟨w1, w1'⟩, _⟩ := HW.out
      go_wp2_with fail
      clear w1 w1'
      go_loopw [7] (fun vi wq => ∃ i : Nat, vi = .int .i64 (i : Int) ∧ i ≤ LN ∧ Ar wq A (ind (cat stk k ++ (stk k).take i)) ∧ Fr (fun j => j = A) W2 wq) (fun vi _ => (LN - intOf vi).toNat)
      case atStart => exact ⟨0, rfl, Nat.zero_le _, by rw [List.take_zero, List.append_nil]; exact HA2.out, Fr.of_below (Below.refl _ _)⟩
      case round =>
        obtain ⟨i, rfl, hi, hAr, hfr⟩ := hrel
        clear n26
        obtain ⟨wq, hwq⟩ : ∃ W : World, W = wr := ⟨_, rfl⟩
        rw [← hwq] at hAr hfr ⊢
        clear hwq
        have hlm := HLM.out
        have hbq : Below w.heap.size w wq := HBL.out.trans (hfr.below HBL.out.size fun j hj e => by have := HA.out; omega)
        by_cases hlt : i < LN
        · obtain ⟨x, hx⟩ : ∃ x, (stk k)[i]? = some x := ⟨_, List.getElem?_eq_getElem (by rw [← HLNE.out]; exact hlt)⟩
          have hxm : x ∈ stk k := List.mem_of_getElem? hx
          obtain ⟨x1, x2, x3⟩ := HI.out.m.al.al.i.mem k HK.out x hxm
          have h40 := H40.out
          have R3 := HI.out.below hbq
          obtain ⟨gl, ol, rfl, hcl⟩ := HRD.out i ((x : Nat) : Int) (by unfold nums; rw [List.getElem?_map, hx]; rfl)
          have hglA : gl ≠ A := by have h1 := (HBS.out _ rfl).1; have h2 := HLT.out; simp only at h1; omega
          have hgl : gl < W2.heap.size := (HBS.out _ rfl).2
          have hcl2 : W2.cell? ⟨gl, ol + i, none⟩ = some (.int .i64 (x : Int)) := by have := hcl 0 _ rfl; rwa [show ol + i * KI.sz + 0 = ol + i by show ol + i * 1 + 0 = ol + i; omega] at this
          have hcq : ∀ W, Below wq.heap.size wq W → W.cell? ⟨gl, ol + i, none⟩ = some (.int .i64 (x : Int)) := fun W hb => (World.cell?_of_block (a := ⟨gl, ol + i, none⟩) ((hb.block gl (Nat.lt_of_lt_of_le hgl hfr.size)).trans (hfr.block gl hgl hglA))).trans hcl2
          have CHt := Ly.height_any (R3.below (bel_drew (Below.refl _ _))).sa.ly.at R3.sa.ok ((x : Nat) : Int)
          unfold Ly.hgE at CHt
          rw [show Ly.pk K.g.t ((x : Nat) : Int) 6 = k from x3, if_pos HK.out, ← HHE.out] at CHt
          have l0 := R3.rb.y
          have c0 := hcq wq (Below.refl _ _)
          have d1 : decide ((i : Int) < (LN : Int)) = true := decide_eq_true (by omega)
          have d1' : decide (i < LN) = true := decide_eq_true hlt
          have i1 : (i : Int) < (LN : Int) := by omega
          have x64 : (x : Int) < 64 := by omega
          have x64' : x < 64 := by omega
          obtain ⟨Q, hQ⟩ : ∃ Q, LN = i + Q + 1 := ⟨LN - i - 1, by omega⟩
          have HV := Lib.hid (show (IntKind.i64.wrap ((LN : Int) - 1) = (LN : Int) - 1 ∧ wrap64 ((LN : Int) - 1) = (LN : Int) - 1) ∧ (IntKind.i64.wrap ((LN : Int) - 1 - (i : Int)) = (Q : Int) ∧ wrap64 ((LN : Int) - 1 - (i : Int)) = (Q : Int)) ∧ IntKind.i64.wrap ((i : Int) + 1) = (i : Int) + 1 ∧ wrap64 ((i : Int) + 1) = (i : Int) + 1 from ⟨⟨IntWalk.i64_in _ (by omega), IntWalk.wrap64_in _ (by omega)⟩, ⟨by rw [show (LN : Int) - 1 - (i : Int) = (Q : Int) by omega]; exact IntWalk.i64_in _ (by omega), by rw [show (LN : Int) - 1 - (i : Int) = (Q : Int) by omega]; exact IntWalk.wrap64_in _ (by omega)⟩, IntWalk.i64_in _ (by omega), IntWalk.wrap64_in _ (by omega)⟩)
          have v3 : (Q : Int) < (LN : Int) := by omega
          have v0 : (0 : Int) ≤ (Q : Int) := by omega
          have hnx : x ∉ cat stk k ++ (stk k).take i := by
            rw [List.mem_append]
            rintro (q | q)
            · obtain ⟨j, j1, j2⟩ := mem_cat.1 q
              have := (HI.out.m.al.al.i.mem j (by have := HK.out; omega) x j2).2.2
              omega
            · exact not_take (HI.out.m.al.al.i.nd k HK.out) hx q
          have hpush := ind_push hnx
          have htk := take_push hx
          have hrev : (nums (stk k).reverse)[Q]? = some ((x : Nat) : Int) := by
            unfold nums
            rw [List.getElem?_map, List.getElem?_reverse (by rw [← HLNE.out]; omega), ← HLNE.out, show LN - 1 - Q = i by omega, hx]
            rfl
          obtain ⟨IV, hIV⟩ : ∃ IV, IV = ind (cat stk k ++ (stk k).take i) x := ⟨_, rfl⟩
          have hIV0 : IV = 0 := by rw [hIV]; unfold ind; rw [if_neg hnx]
          have HV5 := Lib.hid (show IntKind.i64.wrap (IV + 1) = IV + 1 ∧ wrap64 (IV + 1) = IV + 1 from ⟨IntWalk.i64_in _ (by omega), IntWalk.wrap64_in _ (by omega)⟩)
          have HC := Lib.hid CHt
          have HR3 := Lib.hid R3
          have HCQ := Lib.hid hcq
          have HFR := Lib.hid hfr
          have HAQ := Lib.hid hAr
          have HPU := Lib.hid (show Po.set (ind (cat stk k ++ (stk k).take i)) x (IV + 1) = ind (cat stk k ++ (stk k).take (i + 1)) by rw [hIV, hpush, List.append_assoc, ← htk])
          have HRV := Lib.hid hrev
          have HIV := Lib.hid hIV
          have HX64 := Lib.hid x64'
          have HI1 := Lib.hid hlt
          have HALT := Lib.hid hAr.lt
          clear CHt R3 hcq hfr hAr hpush htk hrev hIV hIV0 hnx hx hxm x1 x2 x3 hcl hcl2 hgl hglA hbq hlt h40 hQ hi
          go_wp2_with fail
          go_region_held3 (fun w' => w'.cell? ⟨b, 0, none⟩ = some (.pointer (some ⟨K.bl, 0, none⟩)) ∧ w'.cell? ⟨gl, ol + i, none⟩ = some (.int .i64 (x : Int))) (first | exact ⟨l0, c0⟩ | with_reducible exact ⟨m0, m1⟩) (first | (go_at_call 46; refine HC.out.mono ?_; rintro r1 W4 ⟨rfl, hb4⟩; have hb4' := (bel_drew (Below.refl wq.heap.size wq)).trans hb4; have R4 := HR3.out.below hb4'; have m0 := R4.rb.y; have m1 := HCQ.out W4 hb4'))
          all_goals
            have n26 := R4.rb.sk k HK.out
            rw [HSK.out] at n26
            have hro := R4.sr k HK.out
            rw [HSK.out] at hro
            obtain ⟨_, _, _, hce, _⟩ := hro.form
            obtain ⟨gs, os, hAS, hce2⟩ := hce Q _ HRV.out
            have hAQ4 := HAQ.out.below hb4'
            have HB4 := Lib.hid hb4'
            subst hAS
            have n4 : W4.cell? ⟨gs, os + Q, none⟩ = some (.int .i64 (x : Int)) := hce2
            have HAQ4 := Lib.hid hAQ4
            have HFR4 := Lib.hid (HFR.out.trans (Fr.of_below hb4') (T := fun j => j = A) fun _ _ e => e)
            have HCQ4 := Lib.hid hb4'
            clear hro hce hce2 hAQ4 R4 hb4 hb4'
            obtain ⟨⟨w1, w1'⟩, _⟩ := HW.out
            obtain ⟨⟨v1, v1'⟩, ⟨v2, v2'⟩, v4, v4'⟩ := HV.out
            obtain ⟨v5, v5'⟩ := HV5.out
            go_wp2_with fail
            go_quiet (fail)
            have hA4 := HAQ4.out.below (below_drewN (Below.refl _ _) nq)
            have hF4 := HFR4.out.trans (Fr.of_below (below_drewN (Below.refl _ _) nq)) (T := fun j => j = A) fun _ _ e => e
            have m2 := HCQ.out (W4.drewN nq) (HCQ4.out.trans ((below_drewN (Below.refl _ _) nq).mono HCQ4.out.size))
            generalize W4.drewN nq = W5 at hA4 hF4 m2 ⊢
            have ca := hA4.c x HX64.out
            rw [← HIV.out] at ca
            have caf := hA4.z x
            have hA5 := hA4.set HX64.out (IV + 1)
            rw [HPU.out] at hA5
            have HA5 := Lib.hid hA5
            clear hA5
            have HF5 := Lib.hid (Fr.set hF4 ⟨A, x, none⟩ (.int .i64 (IV + 1)) rfl)
            clear hA4 hF4 n26 n4 m0 m1
            go_wp2
            clear w1 w1' v1 v1' v2 v2' v5 v5'
            go_roundw
            case rel => exact ⟨i + 1, by clear v4 v4'; go_num, HI1.out, HA5.out, HF5.out⟩
            case measure => clear v4 v4'; have hi1 := HI1.out; simp [intOf]; omega
        · obtain rfl : i = LN := by omega
          have d1 : decide ((i : Int) < (i : Int)) = false := decide_eq_false (by omega)
          have d1' : decide (i < i) = false := decide_eq_false (by omega)
          have HFIN := Lib.hid (show Ar wq A (ind (cat stk (k + 1))) by rw [cat]; rw [HLNE.out, List.take_length] at hAr; exact hAr)
          have HBQ := Lib.hid hbq
          clear hAr hfr hbq hi hlm
          obtain ⟨_, wh, wh'⟩ := HW.out
          go_wp2
          go_roundw
          case rel => exact ⟨k + 1, by clear wh wh'; rw [HHE.out]; go_num, HK.out, HFIN.out, HBQ.out⟩
          case measure => clear wh wh'; have hhe := HHE.out; have hk6 := HK.out; simp [intOf]; omega
    · obtain rfl : k = 6 := by omega
      have d0 : decide (((6 + 1 : Nat) : Int) ≤ 6) = false := by decide
      have CO := outS R.sa
      rw [outL_N] at CO
      obtain ⟨ON, hON⟩ : ∃ ON, ON = outN S (tot K.g.t 6 + 1) := ⟨_, rfl⟩
      rw [← hON] at CO
      have p1 := R.rb.p
      have HCO := Lib.hid CO
      have HAR := Lib.hid hAr
      have HBE := Lib.hid bel
      have HON := Lib.hid hON
      clear CO R hAr bel hlt hk hON
      go_wp2_with fail
      refine HCO.out.mono ?_
      rintro r1 W2 ⟨v, rfl, own, hb2⟩
      obtain ⟨_, Al, cl, rfl, _, hrd, _, hbase⟩ := KI.row own
      obtain ⟨LN, hLN⟩ : ∃ LN, LN = ON.length := ⟨_, rfl⟩
      have hl1 : (nums ON).length = LN := by rw [hLN]; simp [nums]
      rw [hl1]
      have hLM : LN ≤ 1024 := by rw [hLN, HON.out]; exact Nat.le_trans (nodup_len (tot K.g.t 6) _ (nodup_outN S _) fun m hm => by have := mem_outN.1 hm; omega) HI.out.m.al.al.i.n1
      have HBL := Lib.hid (HBE.out.trans (hb2.mono HBE.out.size))
      have HRD := Lib.hid hrd
      have HBS := Lib.hid hbase
      have HA2 := Lib.hid (HAR.out.below hb2)
      have HLT := Lib.hid HAR.out.lt
      have HLNE := Lib.hid hLN
      have HLM := Lib.hid hLM
      clear own hrd hbase hb2 hl1 hLM hLN p1 HCO
      go_wp2
      go_loopw [11] (fun vi wq => ∃ i : Nat, vi = .int .i64 (i : Int) ∧ i ≤ LN ∧ Ar wq A (ind (cat stk 6 ++ ON.take i)) ∧ Fr (fun j => j = A) W2 wq) (fun vi _ => (LN - intOf vi).toNat)
      case atStart => exact ⟨0, rfl, Nat.zero_le _, by rw [List.take_zero, List.append_nil]; exact HA2.out, Fr.of_below (Below.refl _ _)⟩
      case round =>
        obtain ⟨i, rfl, hi, hAr, hfr⟩ := hrel
        obtain ⟨wq, hwq⟩ : ∃ W : World, W = wr := ⟨_, rfl⟩
        rw [← hwq] at hAr hfr ⊢
        clear hwq
        have hlm := HLM.out
        have hbq : Below w.heap.size w wq := HBL.out.trans (hfr.below HBL.out.size fun j hj e => by have := HA.out; omega)
        have R3 := HI.out.below hbq
        by_cases hlt : i < LN
        · obtain ⟨x, hx⟩ : ∃ x, ON[i]? = some x := ⟨_, List.getElem?_eq_getElem (by rw [← HLNE.out]; exact hlt)⟩
          have hxm : x ∈ ON := List.mem_of_getElem? hx
          rw [HON.out] at hxm
          obtain ⟨x1, x2, x3⟩ := mem_outN.1 hxm
          have h40 := H40.out
          obtain ⟨gl, ol, rfl, hcl⟩ := HRD.out i ((x : Nat) : Int) (by unfold nums; rw [List.getElem?_map, hx]; rfl)
          have hglA : gl ≠ A := by have h1 := (HBS.out _ rfl).1; have h2 := HLT.out; simp only at h1; omega
          have hgl : gl < W2.heap.size := (HBS.out _ rfl).2
          have hcl2 : W2.cell? ⟨gl, ol + i, none⟩ = some (.int .i64 (x : Int)) := by have := hcl 0 _ rfl; rwa [show ol + i * KI.sz + 0 = ol + i by show ol + i * 1 + 0 = ol + i; omega] at this
          have c0 : wq.cell? ⟨gl, ol + i, none⟩ = some (.int .i64 (x : Int)) := (World.cell?_of_block (a := ⟨gl, ol + i, none⟩) (hfr.block gl hgl hglA)).trans hcl2
          have CT := fun m => Lib.hid (Ly.towers_any (R3.below (below_drewN (Below.refl _ _) m)).sa.ly.at)
          have l0 := R3.rb.y
          have d1 : decide ((i : Int) < (LN : Int)) = true := decide_eq_true (by omega)
          have d1' : decide (i < LN) = true := decide_eq_true hlt
          have i1 : (i : Int) < (LN : Int) := by omega
          have x64 : (x : Int) < 64 := by omega
          have x64' : x < 64 := by omega
          have d2 : decide ((x : Int) < 1) = false := decide_eq_false (by omega)
          have d3 : decide (((tot K.g.t 6 : Nat) : Int) < (x : Int)) = false := decide_eq_false (by omega)
          have d3' : decide (tot K.g.t 6 < x) = false := decide_eq_false (by omega)
          have d2' : decide (x < 1) = false := decide_eq_false (by omega)
          have d2q : (x == 0) = false := by simp; omega
          have d2z : decide (x = 0) = false := decide_eq_false (by omega)
          have hnx : x ∉ cat stk 6 ++ ON.take i := by
            rw [List.mem_append]
            rintro (q | q)
            · obtain ⟨j, j1, j2⟩ := mem_cat.1 q
              have hj := (HI.out.m.al.al.i.mem j j1 x j2).2.2
              have := ((HI.out.m.al.al.i.tk x x1 (by omega)).2).1 x3
              rw [hj] at this
              exact this j2
            · exact not_take (by rw [HON.out]; exact nodup_outN S _) hx q
          have hpush := ind_push hnx
          have htk := take_push hx
          obtain ⟨IV, hIV⟩ : ∃ IV, IV = ind (cat stk 6 ++ ON.take i) x := ⟨_, rfl⟩
          have hIV0 : IV = 0 := by rw [hIV]; unfold ind; rw [if_neg hnx]
          have HV5 := Lib.hid (show (IntKind.i64.wrap (IV + 1) = IV + 1 ∧ wrap64 (IV + 1) = IV + 1) ∧ IntKind.i64.wrap ((i : Int) + 1) = (i : Int) + 1 ∧ wrap64 ((i : Int) + 1) = (i : Int) + 1 from ⟨⟨IntWalk.i64_in _ (by omega), IntWalk.wrap64_in _ (by omega)⟩, IntWalk.i64_in _ (by omega), IntWalk.wrap64_in _ (by omega)⟩)
          have HPU := Lib.hid (show Po.set (ind (cat stk 6 ++ ON.take i)) x (IV + 1) = ind (cat stk 6 ++ ON.take (i + 1)) by rw [hIV, hpush, List.append_assoc, ← htk])
          have HIV := Lib.hid hIV
          have HX64 := Lib.hid x64'
          have HI1 := Lib.hid hlt
          have HAQ := Lib.hid hAr
          have HFR := Lib.hid hfr
          have hF4 := fun m => Lib.hid (show wq.cell? ⟨gl, ol + i, none⟩ = (wq.drewN m).cell? ⟨gl, ol + i, none⟩ from rfl)
          have HC0 := Lib.hid c0
          clear hpush htk hIV hIV0 hnx hx hxm x1 x2 x3 hcl hcl2 hgl hglA hbq hlt h40 hi R3 hAr hfr hlm hF4
          obtain ⟨⟨v5, v5'⟩, v4, v4'⟩ := HV5.out
          go_wp2_with fail
          go_quiet (first | (go_at_call 27; first | (with_reducible exact qL (CT _).out) | (with_reducible exact qA (CT _).out)))
          have hA4 := HAQ.out.below (below_drewN (Below.refl _ _) nq)
          have hF4 := HFR.out.trans (Fr.of_below (below_drewN (Below.refl _ _) nq)) (T := fun j => j = A) fun _ _ e => e
          have m2 : (wq.drewN nq).cell? ⟨gl, ol + i, none⟩ = some (.int .i64 (x : Int)) := HC0.out
          generalize wq.drewN nq = W5 at hA4 hF4 m2 ⊢
          have ca := hA4.c x HX64.out
          rw [← HIV.out] at ca
          have caf := hA4.z x
          have hA5 := hA4.set HX64.out (IV + 1)
          rw [HPU.out] at hA5
          have HA5 := Lib.hid hA5
          have HF5 := Lib.hid (Fr.set hF4 ⟨A, x, none⟩ (.int .i64 (IV + 1)) rfl)
          clear hA4 hF4 hA5 l0 c0
          go_wp2
          clear v5 v5'
          go_roundw
          case rel => exact ⟨i + 1, by clear v4 v4'; go_num, HI1.out, HA5.out, HF5.out⟩
          case measure => clear v4 v4'; have hi1 := HI1.out; simp [intOf]; omega
        · obtain rfl : i = LN := by omega
          have d1 : decide ((i : Int) < (i : Int)) = false := decide_eq_false (by omega)
          have d1' : decide (i < i) = false := decide_eq_false (by omega)
          rw [HLNE.out, List.take_length, HON.out] at hAr
          have HALL := Lib.hid (show ∀ t : Nat, t < tot K.g.t 6 → ind (cat stk 6 ++ outN S (tot K.g.t 6 + 1)) (t + 1) = 1 from fun t ht => by
            unfold ind
            rw [if_pos]
            rw [List.mem_append]
            obtain ⟨q1, q2⟩ := HI.out.m.al.al.i.tk (t + 1) (by omega) (by omega)
            by_cases e : S.tk (t + 1) = true
            · exact .inr (mem_outN.2 ⟨by omega, by omega, e⟩)
            · refine .inl (mem_cat.2 ⟨htG K.g (t + 1), q1, ?_⟩)
              by_cases e2 : t + 1 ∈ stk (htG K.g (t + 1))
              · exact e2
              · exact absurd (q2.2 e2) e)
          have HAE := Lib.hid hAr
          have HBQ := Lib.hid hbq
          have HR3 := Lib.hid R3
          have CW := Lib.hid (Ly.towers_any R3.sa.ly.at)
          have l0 := R3.rb.y
          clear hAr hfr hbq hi R3 hlm
          go_wp2
          go_loopw [12] (fun vt wx => ∃ t : Nat, vt = .int .i64 ((t + 1 : Nat) : Int) ∧ t ≤ tot K.g.t 6 ∧ wx = wq) (fun vt _ => (tot K.g.t 6 + 1 - intOf vt).toNat)
          case atStart => exact ⟨0, rfl, Nat.zero_le _, rfl⟩
          case round =>
            obtain ⟨t, rfl, ht, e⟩ := hrel
            subst e
            have h40 := H40.out
            obtain ⟨T1, hT1⟩ : ∃ T1, T1 = ((t + 1 : Nat) : Int) := ⟨_, rfl⟩
            by_cases hlt : t < tot K.g.t 6
            · have ca := HAE.out.c (t + 1) (by omega)
              rw [HALL.out t hlt] at ca
              have d3 : decide (((t + 1 : Nat) : Int) ≤ ((tot K.g.t 6 : Nat) : Int)) = true := decide_eq_true (by omega)
              have d3' : decide (t + 1 ≤ tot K.g.t 6) = true := decide_eq_true (by omega)
              have d3n : decide (t < tot K.g.t 6) = true := decide_eq_true (by omega)
              have d3a : decide ((t : Int) + 1 ≤ ((tot K.g.t 6 : Nat) : Int)) = true := decide_eq_true (by omega)
              have d3b : decide ((t : Int) < ((tot K.g.t 6 : Nat) : Int)) = true := decide_eq_true (by omega)
              have t64 : ((t + 1 : Nat) : Int) < 64 := by omega
              have t0 : (0 : Int) ≤ ((t + 1 : Nat) : Int) := by omega
              have HV := Lib.hid (show IntKind.i64.wrap (((t + 1 : Nat) : Int) + 1) = ((t + 1 : Nat) : Int) + 1 ∧ wrap64 (((t + 1 : Nat) : Int) + 1) = ((t + 1 : Nat) : Int) + 1 from ⟨IntWalk.i64_in _ (by omega), IntWalk.wrap64_in _ (by omega)⟩)
              have HLT2 := Lib.hid hlt
              clear hlt ht h40
              obtain ⟨v4, v4'⟩ := HV.out
              go_wp2_with fail
              refine CW.out.mono ?_
              rintro r1 W7 ⟨rfl, e⟩
              obtain rfl := e.symm
              go_wp2
              go_roundw
              case rel => exact ⟨t + 1, by clear v4 v4'; go_num, HLT2.out, (by first | rfl | trivial)⟩
              case measure => clear v4 v4'; have := HLT2.out; simp [intOf]; omega
            · obtain rfl : t = tot K.g.t 6 := by omega
              have d3 : decide (((tot K.g.t 6 + 1 : Nat) : Int) ≤ ((tot K.g.t 6 : Nat) : Int)) = false := decide_eq_false (by omega)
              have d3' : decide (tot K.g.t 6 + 1 ≤ tot K.g.t 6) = false := decide_eq_false (by omega)
              have d3n : decide (tot K.g.t 6 < tot K.g.t 6) = false := decide_eq_false (by omega)
              have d3a : decide (((tot K.g.t 6 : Nat) : Int) + 1 ≤ ((tot K.g.t 6 : Nat) : Int)) = false := decide_eq_false (by omega)
              have d3b : decide (((tot K.g.t 6 : Nat) : Int) < ((tot K.g.t 6 : Nat) : Int)) = false := decide_eq_false (by omega)
              clear hlt ht h40
              go_wp2_with fail
              refine CW.out.mono ?_
              rintro r1 W7 ⟨rfl, e⟩
              obtain rfl := e.symm
              go_wp2
              go_ret
              exact ⟨rfl, HBQ.out⟩
end
end Po
end Go.Proofs.Ytcipjjchclpgnaa
