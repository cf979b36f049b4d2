/- leapfrogref11: Check, ends, Sections, Waits: contracts of the translated code; appends inside a region that draws. Conditions: those of each lemma. Written by tools/mk11ref.py. -/
import Derived.Test.YtbnchajkfceaoaaEvG
import Derived.Deep.RegionLaw
import Derived.Deep.AppendLies
namespace Go.Proofs.Ytbnchajkfceaoaa
open Go.RowKit Go.Sort
set_option linter.unusedVariables false
set_option linter.unusedSimpArgs false
namespace Ev
variable {α : Type}
theorem Kd.own_below (K : Kd α) {w w' : World} {base n : Nat} {v : Value} {xs : List Value} (h : w.ownsRow base K.E K.sz v n xs) (hb : Below w.heap.size w w') : w'.ownsRow base K.E K.sz v n xs :=
  K.own_keep h fun g hg => hb.block g (h.lt g hg).2
/-- 'append(l, a)' onto a row of one's own, in a region that draws -/
theorem Kd.step (K : Kd α) {ops : Array Oper} {o : Oper} {a : Act} {C : Act → World → Prop} {Q : Exit → Act → World → Prop} {R : Prop} (hgd : o.guard = none) (s x : Operand)
    (ho : o.op = .call { callee := .builtin .append, args := #[s, x], argTypes := #[K.S, K.S] }) (W : World) (base H n : Nat) (v : Value) (ys : List α) (y : α) (cs : Array Value)
    (hs : a.eval s = v) (hx : a.eval x = .slice (some ⟨H, 0, none⟩) 1 1) (hb : W.heap[H]? = some (.cells cs K.E (0, 0))) (hcs : cs.toList = K.enc y) (hown : W.ownsRow base K.E K.sz v n (K.flat ys)) (hn : n ≤ 50000) (hbs : base ≤ W.heap.size)
    (h : ∀ v' w', w'.ownsRow base K.E K.sz v' (n + 1) (K.flat (ys ++ [y])) → Kp W v w' v' → C (a.put o.dst v') w') :
    if Region.wanted o (yielded ops a.tmps) = true then Oper.wp Try.prog o a W C Q else R := by
  obtain ⟨i0, z, hi, hz0, hzs, hz1, hz2⟩ := K.info
  have hbt := K.bpos
  have hbytes : (n + 1) * K.bt ≤ 140737488355328 := by
    have : (n + 1) * K.bt ≤ 50001 * 64 := Nat.mul_le_mul (by omega) hbt
    omega
  refine step_append_lies _ hgd s x K.S ho base K.E i0 z K.sz K.bt K.und hi hz0 hz1 hz2 hzs K.pos v n (K.flat ys) hs hown ⟨H, 0, none⟩ 1 1 (K.enc y) hx (by rw [K.len, Nat.one_mul])
    (by rw [← hcs]; exact World.news_of_block hb) (K.one y) (by omega) (by unfold maxLen; omega) hbytes hbs _ rfl ?_
  intro g cap w' h1 h2 h3 h4
  rw [show K.flat ys ++ K.enc y = K.flat (ys ++ [y]) by rw [K.flat_append, K.flat_one]] at h1
  refine h _ w' h1 ⟨fun k hk hne => h2.block k hk (fun e => hne e.symm), fun k hk => ?_, h2.size, h2.os, h2.tape, h2.output⟩
  simp only [Value.ownBlock, Option.some.injEq] at hk
  subst hk
  rcases h3 with e | e
  · exact .inl e
  · exact .inr (by omega)
/-- a list in memory and an error, as a call returns them -/
def RwPost (K : Kd α) (er : Int) (xs : List α) (w : World) (e : Ending) (w' : World) : Prop :=
  ∃ v, e = .returned (.tuple #[v, .int .i64 er]) ∧ w'.ownsRow w.heap.size K.E K.sz v xs.length (K.flat xs) ∧ Below w.heap.size w w'
def erC (l : List E) : Int := if chk l = none then 0 else 15
def chkAt (l : List E) : Nat := (chk l).getD 0
theorem chkV_eq (l : List E) : chkV l = .tuple #[.int .i64 (chkAt l : Nat), .int .i64 (erC l)] := by
  unfold chkV chkAt erC
  cases chk l <;> rfl
theorem erC_ok {l : List E} (h : chk l = none) : erC l = 0 := by unfold erC; rw [if_pos h]
theorem erC_no {l : List E} (h : ¬ chk l = none) : erC l = 15 := by unfold erC; rw [if_neg h]
def secL (k : Int) (l : List E) : List I := if chk l = none then ivs k l else []
theorem secL_ok {k : Int} {l : List E} (h : chk l = none) : secL k l = ivs k l := by unfold secL; rw [if_pos h]
theorem secL_no {k : Int} {l : List E} (h : ¬ chk l = none) : secL k l = [] := by unfold secL; rw [if_neg h]
set_option maxRecDepth 100000 in
set_option maxHeartbeats 1000000 in
theorem checkR_any (A : Option Addr) (n c : Nat) (l : List E) (w : World) (hl : l.length = n) (hx : n ≤ maxLen) (hr : KE.Rd w A l) :
    Calls Try.prog 11 #[.slice A n c] w fun e w' => e = .returned (chkV l) ∧ Below w.heap.size w w' := by
  have HL := Lib.hid hl
  have HR := Lib.hid hr
  have HX := Lib.hid hx
  unfold maxLen at hx
  clear hl hr
  go_enter Try.func11, Try.ntmps11
  go_wp2
  go_loopw [4] (fun i wr => ∃ k : Nat, k ≤ n ∧ i = .int .i64 k ∧ (∀ i, i < k → goodB (l.take i) (l.getD i e0) = true) ∧ Below w.heap.size w wr) (fun i _ => n - (intOf i).toNat)
  case atStart => exact ⟨0, Nat.zero_le _, rfl, fun i hi => (by omega), Below.refl _ _⟩
  case round =>
    obtain ⟨j, hj, rfl, hg, bel⟩ := hrel
    have HG := Lib.hid hg
    clear hg
    by_cases hlt : j < n
    · have hjl : j < l.length := by have := HL.out; omega
      have d0 : decide ((j : Int) < n) = true := decide_eq_true (by omega)
      have j1 : (j : Int) < n := by omega
      have CG := fun (W : World) (hb : Below w.heap.size w W) => Lib.hid (good_any A n c j l W HL.out HX.out hlt (HR.out.below hb))
      obtain ⟨r, hrr⟩ : ∃ r, goodB (l.take j) (l.getD j e0) = r := ⟨_, rfl⟩
      rw [hrr] at CG
      have HRR := Lib.hid hrr
      clear hrr
      cases r with
      | true =>
        have HGD := Lib.hid (show ∀ i, i < j + 1 → goodB (l.take i) (l.getD i e0) = true from fun i hi => by
          by_cases hij : i = j
          · subst hij; exact HRR.out
          · exact HG.out i (by omega))
        go_wp2_with fail
        refine (CG _ bel).out.mono ?_
        rintro e w1 ⟨rfl, b1⟩
        go_wp2
        go_roundw
        case rel => exact ⟨j + 1, by omega, by go_num, HGD.out, bel_trans bel b1⟩
        case measure => simp [intOf]; omega
      | false =>
        have HV := Lib.hid (chkV_some (chk_some hjl HG.out HRR.out))
        go_wp2_with fail
        refine (CG _ bel).out.mono ?_
        rintro e w1 ⟨rfl, b1⟩
        go_wp2
        go_ret2
        exact ⟨by rw [HV.out]; first | done | rfl, bel_trans bel b1⟩
    · obtain rfl : j = n := by omega
      have HV := Lib.hid (chkV_none (chk_none.2 (fun i hi => HG.out i (by have := HL.out; omega))))
      have d0 : decide ((j : Int) < j) = false := by simp
      go_wp2
      go_ret2
      exact ⟨by rw [HV.out]; first | done | rfl, bel⟩
theorem drop_get {l : List E} {i : Nat} (h : i < l.length) : l.drop i = l.getD i e0 :: l.drop (i + 1) := by
  rw [getD_get h]; exact List.drop_eq_getElem_cons h
set_option maxRecDepth 100000 in
set_option maxHeartbeats 1000000 in
theorem endsR_any (A : Option Addr) (n c I : Nat) (l : List E) (w : World) (hl : l.length = n) (hx : n ≤ maxLen) (hi : I < n) (hr : KE.Rd w A l) :
    Calls Try.prog 36 #[.slice A n c, .int .i64 (I : Nat)] w fun e w' => e = .returned (.int .i64 (nxt (l.getD I e0).t (l.drop (I + 1)))) ∧ Below w.heap.size w w' := by
  unfold maxLen at hx
  have hil : I < l.length := by omega
  have HL := Lib.hid hl
  have HR := Lib.hid hr
  clear hl hr
  obtain ⟨T, hT⟩ : ∃ T, (l.getD I e0).t = T := ⟨_, rfl⟩
  rw [hT]
  have HT := Lib.hid hT
  clear hT
  have i1 : (I : Int) < n := by omega
  go_enter Try.func36, Try.ntmps36
  go_wp2
  go_loopw [5] (fun i wr => ∃ k : Nat, I < k ∧ k ≤ n ∧ i = .int .i64 k ∧ nxt T (l.drop (I + 1)) = nxt T (l.drop k) ∧ Below w.heap.size w wr) (fun i _ => n - (intOf i).toNat)
  case atStart => exact ⟨I + 1, by omega, by omega, by go_num, rfl, Below.refl _ _⟩
  case round =>
    obtain ⟨j, hIj, hj, rfl, hg, bel⟩ := hrel
    have HG := Lib.hid hg
    clear hg
    by_cases hlt : j < n
    · have hjl : j < l.length := by have := HL.out; omega
      have d0 : decide ((j : Int) < n) = true := decide_eq_true (by omega)
      have j1 : (j : Int) < n := by omega
      obtain ⟨b, o, rfl, c0, c1, c2, c3⟩ := KE.at_ (HR.out.below bel) hjl
      obtain ⟨b2, o2, eA, _, k1, _, _⟩ := KE.at_ (HR.out.below bel) hil
      cases eA
      rw [HT.out] at k1
      have HD := Lib.hid (drop_get hjl)
      generalize l.getD j e0 = y at *
      obtain ⟨ys, yt, yk, yv⟩ := y
      simp only at c0 c1 c2 c3
      by_cases ht : yt = T
      · have t0 : (yt == T) = true := by simpa using ht
        have HV := Lib.hid (show nxt T (l.drop (I + 1)) = ys by rw [HG.out, HD.out]; simp [nxt, ht])
        clear ht
        go_wp2
        go_quiet (fail)
        go_wp2
        go_ret
        exact ⟨by rw [HV.out]; first | done | rfl, bel_drawN bel _⟩
      · have t0 : (yt == T) = false := by simpa using ht
        have HV := Lib.hid (show nxt T (l.drop (I + 1)) = nxt T (l.drop (j + 1)) by rw [HG.out, HD.out]; simp [nxt, ht])
        clear ht
        go_wp2
        go_quiet (fail)
        go_wp2
        go_roundw
        case rel => exact ⟨j + 1, by omega, by omega, by go_num, HV.out, bel_drawN bel _⟩
        case measure => simp [intOf]; omega
    · obtain rfl : j = n := by omega
      have HV := Lib.hid (show nxt T (l.drop (I + 1)) = -1 by rw [HG.out, List.drop_of_length_le (by have := HL.out; omega)]; rfl)
      have d0 : decide ((j : Int) < j) = false := by simp
      go_wp2
      go_ret
      exact ⟨by rw [HV.out]; first | done | rfl, bel⟩
theorem ivs_drop1 {l : List E} {j : Nat} (h : j < l.length) : ivs 1 (l.drop j) = if (l.getD j e0).k = 1 then ⟨(l.getD j e0).t, (l.getD j e0).v, (l.getD j e0).s, nxt (l.getD j e0).t (l.drop (j + 1))⟩ :: ivs 1 (l.drop (j + 1)) else ivs 1 (l.drop (j + 1)) := by
  rw [drop_get h]; rfl
set_option maxRecDepth 100000 in
set_option maxHeartbeats 2000000 in
theorem sectionsR_any (A : Option Addr) (n c : Nat) (l : List E) (w : World) (hl : l.length = n) (hx : n ≤ 1000) (hr : KE.Rd w A l) :
    Calls Try.prog 13 #[.slice A n c] w (RwPost KS (erC l) (secL 1 l) w) := by
  have CC := fun (W : World) (h : KE.Rd W A l) => Lib.hid (checkR_any A n c l W hl (by unfold maxLen; omega) h)
  have CE := fun (I : Nat) (hi : I < n) (W : World) (h : KE.Rd W A l) => Lib.hid (endsR_any A n c I l W hl (by unfold maxLen; omega) hi h)
  have HL := Lib.hid hl
  have HR := Lib.hid hr
  clear hl hr
  by_cases hok : chk l = none
  · have HP := Lib.hid (show ∀ v w', w'.ownsRow w.heap.size KS.E KS.sz v (ivs 1 l).length (KS.flat (ivs 1 l)) → Below w.heap.size w w' → RwPost KS (erC l) (secL 1 l) w (.returned (.tuple #[v, .int .i64 0])) w' from fun v w' h1 h2 => ⟨v, by rw [erC_ok hok], by rw [secL_ok hok]; exact h1, h2⟩)
    rw [chkV_none hok] at CC
    clear hok
    go_enter Try.func13, Try.ntmps13
    go_wp2_with fail
    refine (CC _ HR.out).out.mono ?_
    rintro e w0 ⟨rfl, b0⟩
    go_wp2
    go_loopw [6, 7] (fun q i wr => ∃ (k : Nat) (ys : List I), k ≤ n ∧ i = .int .i64 k ∧ wr.ownsRow w.heap.size KS.E KS.sz q ys.length (KS.flat ys) ∧ ys ++ ivs 1 (l.drop k) = ivs 1 l ∧ Below w.heap.size w wr) (fun q i _ => n - (intOf i).toNat)
    case atStart => exact ⟨0, [], Nat.zero_le _, rfl, KS.nil _ _, rfl, b0⟩
    case round =>
      obtain ⟨j, ys, hj, rfl, ow, hys, bel⟩ := hrel
      obtain ⟨wq, rfl⟩ : ∃ wq : World, wq = wr := ⟨_, rfl⟩
      have OW := Lib.hid ow
      have HY := Lib.hid hys
      clear ow hys
      by_cases hlt : j < n
      · have hjl : j < l.length := by have := HL.out; omega
        have hyl : ys.length ≤ 1000 := by have h1 := congrArg List.length HY.out; have h2 := ivs_len 1 l; rw [List.length_append] at h1; have := HL.out; omega
        have d0 : decide ((j : Int) < n) = true := decide_eq_true (by omega)
        have j1 : (j : Int) < n := by omega
        have hrd := HR.out.below bel
        obtain ⟨b, o, rfl, c0, c1, c2, c3⟩ := KE.at_ hrd hjl
        have lb : b < wq.heap.size := cell_lt c0
        obtain ⟨b2, o2, eA, cw0, cw1, cw2, cw3⟩ := KE.at_ HR.out hjl
        cases eA
        have lbw : b < w.heap.size := cell_lt cw0
        have HD := Lib.hid (ivs_drop1 hjl)
        have CEj := CE j hlt
        have RD := Lib.hid hrd
        generalize l.getD j e0 = y at *
        obtain ⟨xs, xt, xk, xv⟩ := y
        simp only at c0 c1 c2 c3 cw0 cw1 cw2 cw3 HD CEj
        clear CE CC hrd
        by_cases ht : xk = 1
        · have t0 : (xk == 1) = true := by simpa using ht
          rw [if_pos ht] at HD
          obtain ⟨z, hz⟩ : ∃ z, nxt xt (l.drop (j + 1)) = z := ⟨_, rfl⟩
          rw [hz] at HD CEj
          have HV := Lib.hid (show (ys ++ [⟨xt, xv, xs, z⟩]) ++ ivs 1 (l.drop (j + 1)) = ivs 1 l by rw [← HY.out, HD.out, List.append_assoc]; rfl)
          clear ht hz
          go_wp2
          go_region_held3 (fun w' => w'.cell? ⟨b, o + j * 4, none⟩ = some (.int .i64 xs) ∧ w'.cell? ⟨b, o + j * 4 + 1, none⟩ = some (.int .i64 xt) ∧ w'.cell? ⟨b, o + j * 4 + 3, none⟩ = some (.int .u64 xv)) (first | exact ⟨c0, c1, c3⟩ | exact ⟨m0, m1, m3⟩ | exact ⟨k0, k1, k3⟩ | go_keep) (first | (go_at_call 36; refine (CEj wq.drew RD.out).out.mono ?_; rintro r w1 ⟨rfl, b1'⟩; have b1 : Below wq.heap.size wq w1 := ⟨b1'.os, b1'.tape, b1'.output, b1'.size, b1'.block⟩; have m0 := (b1.cell (p := ⟨b, o + j * 4, none⟩) lb).trans c0; have m1 := (b1.cell (p := ⟨b, o + j * 4 + 1, none⟩) lb).trans c1; have m3 := (b1.cell (p := ⟨b, o + j * 4 + 3, none⟩) lb).trans c3; have OW1 := Lib.hid (KS.own_below OW.out b1); have be1 := Lib.hid (bel.trans (b1.mono bel.size))) | (refine KS.step (by rfl) (.tmp 28) (.tmp 48) (by rfl) _ w.heap.size w1.heap.size ys.length _ ys ⟨xt, xv, xs, z⟩ #[.int .i64 xt, .int .u64 xv, .int .i64 xs, .int .i64 z] (by rfl) (by rfl) (MapKept.heap_alloc w1 _).1 rfl (KS.own_below OW1.out ((Below.refl _ _).alloc (Nat.le_refl _) _)) (by omega) (Nat.le_trans bel.size (Nat.le_trans b1.size (by show w1.heap.size ≤ (w1.alloc _).heap.size; simp))) ?_; intro v7 w7 own7 kp7; have hsz7 := Nat.le_trans bel.size (Nat.le_trans b1.size (show w1.heap.size ≤ (w1.alloc (.cells #[.int .i64 xt, .int .u64 xv, .int .i64 xs, .int .i64 z] KS.E)).heap.size by simp)); have be7 : Below w.heap.size w w7 := (by first | exact (bel_alloc be1.out _).trans (kp7.bel hsz7 (fun k hk => (OW.out.lt k hk).1)) | exact (bel_draw (bel_alloc be1.out _)).trans (kp7.bel hsz7 (fun k hk => (OW.out.lt k hk).1))); have k0 := (be7.cell (p := ⟨b, o + j * 4, none⟩) lbw).trans cw0; have k1 := (be7.cell (p := ⟨b, o + j * 4 + 1, none⟩) lbw).trans cw1; have k3 := (be7.cell (p := ⟨b, o + j * 4 + 3, none⟩) lbw).trans cw3))
          go_wp2
          go_roundw
          case rel => exact ⟨j + 1, _, by omega, by go_num, by rw [List.length_append]; exact own7, HV.out, be7⟩
          case measure => simp [intOf]; omega
        · have t0 : (xk == 1) = false := by simpa using ht
          rw [if_neg ht] at HD
          have HV := Lib.hid (show ys ++ ivs 1 (l.drop (j + 1)) = ivs 1 l by rw [← HY.out, HD.out])
          clear ht
          go_wp2
          go_roundw
          case rel => exact ⟨j + 1, ys, by omega, by go_num, OW.out, HV.out, bel⟩
          case measure => simp [intOf]; omega
      · obtain rfl : j = n := by omega
        have HV := Lib.hid (show ys = ivs 1 l by have h := HY.out; rw [List.drop_of_length_le (by have := HL.out; omega)] at h; simpa [ivs] using h)
        have d0 : decide ((j : Int) < j) = false := by simp
        clear CE CC
        go_wp2
        go_ret2
        exact HP.out _ _ (by have h := OW.out; rw [HV.out] at h; exact h) bel
  · have HP := Lib.hid (show ∀ w', Below w.heap.size w w' → RwPost KS (erC l) (secL 1 l) w (.returned (.tuple #[.slice none 0 0, .int .i64 15])) w' from fun w' h2 => ⟨_, by rw [erC_no hok], by rw [secL_no hok]; exact KS.nil _ _, h2⟩)
    rw [show chkV l = .tuple #[.int .i64 (chkAt l : Nat), .int .i64 15] by rw [chkV_eq, erC_no hok]] at CC
    generalize chkAt l = at_ at *
    clear hok CE
    go_enter Try.func13, Try.ntmps13
    go_wp2_with fail
    refine (CC _ HR.out).out.mono ?_
    rintro e w0 ⟨rfl, b0⟩
    go_wp2
    go_ret2
    exact HP.out _ b0
theorem ivs_drop3 {l : List E} {j : Nat} (h : j < l.length) : ivs 3 (l.drop j) = if (l.getD j e0).k = 3 then ⟨(l.getD j e0).t, (l.getD j e0).v, (l.getD j e0).s, nxt (l.getD j e0).t (l.drop (j + 1))⟩ :: ivs 3 (l.drop (j + 1)) else ivs 3 (l.drop (j + 1)) := by
  rw [drop_get h]; rfl
set_option maxRecDepth 100000 in
set_option maxHeartbeats 2000000 in
theorem waitsR_any (A : Option Addr) (n c : Nat) (l : List E) (w : World) (hl : l.length = n) (hx : n ≤ 1000) (hr : KE.Rd w A l) :
    Calls Try.prog 15 #[.slice A n c] w (RwPost KW (erC l) (secL 3 l) w) := by
  have CC := fun (W : World) (h : KE.Rd W A l) => Lib.hid (checkR_any A n c l W hl (by unfold maxLen; omega) h)
  have CE := fun (I : Nat) (hi : I < n) (W : World) (h : KE.Rd W A l) => Lib.hid (endsR_any A n c I l W hl (by unfold maxLen; omega) hi h)
  have HL := Lib.hid hl
  have HR := Lib.hid hr
  clear hl hr
  by_cases hok : chk l = none
  · have HP := Lib.hid (show ∀ v w', w'.ownsRow w.heap.size KW.E KW.sz v (ivs 3 l).length (KW.flat (ivs 3 l)) → Below w.heap.size w w' → RwPost KW (erC l) (secL 3 l) w (.returned (.tuple #[v, .int .i64 0])) w' from fun v w' h1 h2 => ⟨v, by rw [erC_ok hok], by rw [secL_ok hok]; exact h1, h2⟩)
    rw [chkV_none hok] at CC
    clear hok
    go_enter Try.func15, Try.ntmps15
    go_wp2_with fail
    refine (CC _ HR.out).out.mono ?_
    rintro e w0 ⟨rfl, b0⟩
    go_wp2
    go_loopw [6, 7] (fun q i wr => ∃ (k : Nat) (ys : List I), k ≤ n ∧ i = .int .i64 k ∧ wr.ownsRow w.heap.size KW.E KW.sz q ys.length (KW.flat ys) ∧ ys ++ ivs 3 (l.drop k) = ivs 3 l ∧ Below w.heap.size w wr) (fun q i _ => n - (intOf i).toNat)
    case atStart => exact ⟨0, [], Nat.zero_le _, rfl, KW.nil _ _, rfl, b0⟩
    case round =>
      obtain ⟨j, ys, hj, rfl, ow, hys, bel⟩ := hrel
      obtain ⟨wq, rfl⟩ : ∃ wq : World, wq = wr := ⟨_, rfl⟩
      have OW := Lib.hid ow
      have HY := Lib.hid hys
      clear ow hys
      by_cases hlt : j < n
      · have hjl : j < l.length := by have := HL.out; omega
        have hyl : ys.length ≤ 1000 := by have h1 := congrArg List.length HY.out; have h2 := ivs_len 3 l; rw [List.length_append] at h1; have := HL.out; omega
        have d0 : decide ((j : Int) < n) = true := decide_eq_true (by omega)
        have j1 : (j : Int) < n := by omega
        have hrd := HR.out.below bel
        obtain ⟨b, o, rfl, c0, c1, c2, c3⟩ := KE.at_ hrd hjl
        have lb : b < wq.heap.size := cell_lt c0
        obtain ⟨b2, o2, eA, cw0, cw1, cw2, cw3⟩ := KE.at_ HR.out hjl
        cases eA
        have lbw : b < w.heap.size := cell_lt cw0
        have HD := Lib.hid (ivs_drop3 hjl)
        have CEj := CE j hlt
        have RD := Lib.hid hrd
        generalize l.getD j e0 = y at *
        obtain ⟨xs, xt, xk, xv⟩ := y
        simp only at c0 c1 c2 c3 cw0 cw1 cw2 cw3 HD CEj
        clear CE CC hrd
        by_cases ht : xk = 3
        · have t0 : (xk == 3) = true := by simpa using ht
          rw [if_pos ht] at HD
          obtain ⟨z, hz⟩ : ∃ z, nxt xt (l.drop (j + 1)) = z := ⟨_, rfl⟩
          rw [hz] at HD CEj
          have HV := Lib.hid (show (ys ++ [⟨xt, xv, xs, z⟩]) ++ ivs 3 (l.drop (j + 1)) = ivs 3 l by rw [← HY.out, HD.out, List.append_assoc]; rfl)
          clear ht hz
          go_wp2
          go_region_held3 (fun w' => w'.cell? ⟨b, o + j * 4, none⟩ = some (.int .i64 xs) ∧ w'.cell? ⟨b, o + j * 4 + 1, none⟩ = some (.int .i64 xt) ∧ w'.cell? ⟨b, o + j * 4 + 3, none⟩ = some (.int .u64 xv)) (first | exact ⟨c0, c1, c3⟩ | exact ⟨m0, m1, m3⟩ | exact ⟨k0, k1, k3⟩ | go_keep) (first | (go_at_call 36; refine (CEj wq.drew RD.out).out.mono ?_; rintro r w1 ⟨rfl, b1'⟩; have b1 : Below wq.heap.size wq w1 := ⟨b1'.os, b1'.tape, b1'.output, b1'.size, b1'.block⟩; have m0 := (b1.cell (p := ⟨b, o + j * 4, none⟩) lb).trans c0; have m1 := (b1.cell (p := ⟨b, o + j * 4 + 1, none⟩) lb).trans c1; have m3 := (b1.cell (p := ⟨b, o + j * 4 + 3, none⟩) lb).trans c3; have OW1 := Lib.hid (KW.own_below OW.out b1); have be1 := Lib.hid (bel.trans (b1.mono bel.size))) | (refine KW.step (by rfl) (.tmp 28) (.tmp 48) (by rfl) _ w.heap.size w1.heap.size ys.length _ ys ⟨xt, xv, xs, z⟩ #[.int .i64 xt, .int .u64 xv, .int .i64 xs, .int .i64 z] (by rfl) (by rfl) (MapKept.heap_alloc w1 _).1 rfl (KW.own_below OW1.out ((Below.refl _ _).alloc (Nat.le_refl _) _)) (by omega) (Nat.le_trans bel.size (Nat.le_trans b1.size (by show w1.heap.size ≤ (w1.alloc _).heap.size; simp))) ?_; intro v7 w7 own7 kp7; have hsz7 := Nat.le_trans bel.size (Nat.le_trans b1.size (show w1.heap.size ≤ (w1.alloc (.cells #[.int .i64 xt, .int .u64 xv, .int .i64 xs, .int .i64 z] KW.E)).heap.size by simp)); have be7 : Below w.heap.size w w7 := (by first | exact (bel_alloc be1.out _).trans (kp7.bel hsz7 (fun k hk => (OW.out.lt k hk).1)) | exact (bel_draw (bel_alloc be1.out _)).trans (kp7.bel hsz7 (fun k hk => (OW.out.lt k hk).1))); have k0 := (be7.cell (p := ⟨b, o + j * 4, none⟩) lbw).trans cw0; have k1 := (be7.cell (p := ⟨b, o + j * 4 + 1, none⟩) lbw).trans cw1; have k3 := (be7.cell (p := ⟨b, o + j * 4 + 3, none⟩) lbw).trans cw3))
          go_wp2
          go_roundw
          case rel => exact ⟨j + 1, _, by omega, by go_num, by rw [List.length_append]; exact own7, HV.out, be7⟩
          case measure => simp [intOf]; omega
        · have t0 : (xk == 3) = false := by simpa using ht
          rw [if_neg ht] at HD
          have HV := Lib.hid (show ys ++ ivs 3 (l.drop (j + 1)) = ivs 3 l by rw [← HY.out, HD.out])
          clear ht
          go_wp2
          go_roundw
          case rel => exact ⟨j + 1, ys, by omega, by go_num, OW.out, HV.out, bel⟩
          case measure => simp [intOf]; omega
      · obtain rfl : j = n := by omega
        have HV := Lib.hid (show ys = ivs 3 l by have h := HY.out; rw [List.drop_of_length_le (by have := HL.out; omega)] at h; simpa [ivs] using h)
        have d0 : decide ((j : Int) < j) = false := by simp
        clear CE CC
        go_wp2
        go_ret2
        exact HP.out _ _ (by have h := OW.out; rw [HV.out] at h; exact h) bel
  · have HP := Lib.hid (show ∀ w', Below w.heap.size w w' → RwPost KW (erC l) (secL 3 l) w (.returned (.tuple #[.slice none 0 0, .int .i64 15])) w' from fun w' h2 => ⟨_, by rw [erC_no hok], by rw [secL_no hok]; exact KW.nil _ _, h2⟩)
    rw [show chkV l = .tuple #[.int .i64 (chkAt l : Nat), .int .i64 15] by rw [chkV_eq, erC_no hok]] at CC
    generalize chkAt l = at_ at *
    clear hok CE
    go_enter Try.func15, Try.ntmps15
    go_wp2_with fail
    refine (CC _ HR.out).out.mono ?_
    rintro e w0 ⟨rfl, b0⟩
    go_wp2
    go_ret2
    exact HP.out _ b0
end Ev
end Go.Proofs.Ytbnchajkfceaoaa
