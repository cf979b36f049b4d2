/- The reference's memory: New, check, access, Load, Store, Add, CompareAndSwap, Peek, Log: contracts of the translated code. Conditions: those of XWdC. · possible and Replay of package words, Replay of the reference, EqualUints, EqualAccesses, within: contracts of the translated code. Conditions: those of each lemma. · Replay of package words and of the reference: contracts of the translated code. Conditions: the bounds of each number's kind; at most 65,536 words are copied. · EqualUints, EqualAccesses, within of leapfrogkit and leapfroglaw08: contracts of the translated code. No conditions beside those of each lemma. · Two memories side by side, of package words and of the reference; a deed on both. Conditions: the bounds of each number's kind; logs of at most 50,000 accesses. Written by tools/mk8call.py. · A list of deeds in memory; run of leapfroglaw08: contract of the translated code, and what a run makes. Conditions: the bounds of each number's kind; at most 300 words and 200 deeds. · A struct of five one-cell fields by value, opened; arguments that are a list of deeds of layer 8, or of accesses. No conditions beside those of each lemma. · What the laws want of runs and logs: bounds, the words on the way, a log that is spoilt. No conditions. -/
import Derived.Test.YtdkkpaofodicjaaGreatWdE
import Derived.Deep.RegionHeld3
import Derived.Deep.Slices
import Derived.Deep.Fields
namespace Go.Proofs.YtdkkpaofodicjaaGreat
open Go.RowKit Go.Sort
set_option linter.unusedVariables false
set_option linter.unusedSimpArgs false
set_option maxRecDepth 100000
namespace Wd
open Dm (addr_lit info_parts spot_none RdK flatU infoU bel_alloc bel_trans own_keep below_drewN)
set_option maxRecDepth 100000 in
set_option maxHeartbeats 1000000 in
theorem newR_any (A : Option Addr) (n c : Nat) (l : List Int) (w : World) (hl : l.length = n) (hn : n ≤ maxLen) (hr : RdK .u64 w A l) (hz : A = none → c = 0) (hd : BdW l) : Calls Tryz.prog 10 #[.slice A n c] w (NwP 101 l w) := by
  subst hl
  by_cases he : newE l.length = 0
  · obtain ⟨h0, h1⟩ := newE_zero he
    have HP := Lib.hid (show ∀ e w', (∃ b p, e = .returned (.tuple #[.pointer (some ⟨b, 0, none⟩), .int .i64 0]) ∧ At 101 w' b p none ⟨l, []⟩ ∧ w.heap.size ≤ b ∧ w.heap.size ≤ p ∧ Below w.heap.size w w') → NwP 101 l w e w' from fun e w' h => .inr ⟨he, h⟩)
    have HR := Lib.hid hr
    have HD := Lib.hid hd
    clear hr hd he
    have t0 : ((l.length : Int) == 0) = false := beq_eq_false_iff_ne.2 (by omega)
    have t1 : decide ((65536 : Int) < l.length) = false := decide_eq_false (by omega)
    have made : (w.alloc (.cells #[] 101)).ownsRow w.heap.size 101 1 (.slice (some ⟨w.heap.size, 0, none⟩) 0 0) 0 (flatU []) := World.ownsRow_made w #[] 0 (Nat.le_refl _) (Nat.zero_le _) (by simp)
    have B0 : Below w.heap.size w (w.alloc (.cells #[] 101)) := bel_alloc (Below.refl _ _) _
    go_enter Tryz.func10, Tryz.ntmps10
    go_wp2_with (at_builtin; refine Dm.appAll rfl (.tmp 10) (.tmp 11) rfl _ w.heap.size 0 _ [] A l.length c l rfl rfl made rfl (by omega) (by omega) (by simp) (HR.out.below B0) hz ?_; intro v2 w2 h2 b2; rw [Nat.zero_add, List.nil_append] at h2; obtain ⟨g, cap, rfl⟩ := Joins.ownsRow_form h2 h0)
    have hg := h2.lt g rfl
    have b3 : Below w.heap.size w w2 := B0.trans (b2.mono (Nat.le_refl _))
    have HA := Lib.hid (show At0 101 (w2.alloc (.cells #[.slice (some ⟨g, 0, none⟩) l.length cap, .slice none 0 0] 79)) w2.heap.size g cap (.slice none 0 0) ⟨l, []⟩ from
      ⟨by simp, by simp, by simp, (Joins.ownsRow_le h2 (Nat.zero_le _)).alloc _, World.ownsRow_nil _ _ _ _, by omega, (fun e => by cases e), (fun e => by cases e), HD.out, by simpa using h0, by simpa using h1⟩)
    clear h2 made b2
    go_wp2
    go_ret2
    exact HP.out _ _ ⟨w2.heap.size, g, rfl, ⟨_, _, rfl, HA.out⟩, b3.size, hg.1, bel_alloc b3 _⟩
  · have HP := Lib.hid (show NwP 101 l w (.returned (.tuple #[.pointer none, .int .i64 (newE l.length)])) w from .inl ⟨he, rfl, rfl⟩)
    clear hr hd hz
    rcases Nat.eq_zero_or_pos l.length with h0 | h0
    · have e : newE l.length = 2 := by unfold newE; rw [if_pos h0]
      rw [e] at HP
      rw [h0]
      have HP' : NwP 101 l w (.returned (.tuple #[.pointer none, .int .i64 2])) w := HP.out
      clear HP he
      have HP := Lib.hid HP'
      clear HP'
      go_enter Tryz.func10, Tryz.ntmps10
      go_wp2
      go_ret2
      exact HP.out
    · have h1 : 65536 < l.length := by
        refine Nat.lt_of_not_le fun h => he ?_
        unfold newE
        rw [if_neg (by omega), if_neg (by omega)]
      have e : newE l.length = 5 := by unfold newE; rw [if_neg (by omega), if_pos h1]
      rw [e] at HP
      clear he e
      have t0 : ((l.length : Int) == 0) = false := beq_eq_false_iff_ne.2 (by omega)
      have t1 : decide ((65536 : Int) < l.length) = true := decide_eq_true (by omega)
      go_enter Tryz.func10, Tryz.ntmps10
      go_wp2
      go_ret2
      exact HP.out
theorem check_nil (t a : Int) (w : World) : Calls Tryz.prog 98 #[.pointer none, .int .i64 t, .int .i64 a] w fun e w' => e = .returned (.int .i64 1) ∧ w' = w := by
  go_enter Tryz.func98, Tryz.ntmps98
  go_wp2
  go_ret
  exact ⟨rfl, rfl⟩
set_option maxHeartbeats 1000000 in
theorem check_any (b p c : Nat) (v : Value) (M : Wm) (t a : Int) (w : World) (h : At0 101 w b p c v M) :
    Calls Tryz.prog 98 #[.pointer (some ⟨b, 0, none⟩), .int .i64 t, .int .i64 a] w fun e w' => e = .returned (.int .i64 (M.err t a)) ∧ w' = w := by
  have c0 := h.c0
  have C1 := thread_any t w
  unfold Wm.err
  clear h
  by_cases h1 : 0 ≤ t ∧ t < 64
  · rw [decide_eq_true h1] at C1
    rw [if_pos h1]
    have C1 := Lib.hid C1
    clear h1
    by_cases h2 : 0 ≤ a
    · by_cases h3 : a < M.W.length
      · rw [if_pos ⟨h2, h3⟩]
        have t0 : decide (a < 0) = false := decide_eq_false (by omega)
        have t1 : decide ((M.W.length : Int) ≤ a) = false := decide_eq_false (by omega)
        go_enter Tryz.func98, Tryz.ntmps98
        go_wp2_with fail
        refine C1.out.mono ?_
        rintro r w1 ⟨rfl, rfl⟩
        go_wp2
        go_ret
        exact ⟨rfl, rfl⟩
      · rw [if_neg (fun h => h3 h.2)]
        have t0 : decide (a < 0) = false := decide_eq_false (by omega)
        have t1 : decide ((M.W.length : Int) ≤ a) = true := decide_eq_true (by omega)
        go_enter Tryz.func98, Tryz.ntmps98
        go_wp2_with fail
        refine C1.out.mono ?_
        rintro r w1 ⟨rfl, rfl⟩
        go_wp2
        go_ret
        exact ⟨rfl, rfl⟩
    · rw [if_neg (fun h => h2 h.1)]
      have t0 : decide (a < 0) = true := decide_eq_true (by omega)
      go_enter Tryz.func98, Tryz.ntmps98
      go_wp2_with fail
      refine C1.out.mono ?_
      rintro r w1 ⟨rfl, rfl⟩
      go_wp2
      go_ret
      exact ⟨rfl, rfl⟩
  · rw [decide_eq_false h1] at C1
    rw [if_neg h1]
    have C1 := Lib.hid C1
    clear h1
    go_enter Tryz.func98, Tryz.ntmps98
    go_wp2_with fail
    refine C1.out.mono ?_
    rintro r w1 ⟨rfl, rfl⟩
    go_wp2
    go_ret
    exact ⟨rfl, rfl⟩
set_option maxRecDepth 100000 in
set_option maxHeartbeats 1000000 in
theorem access_any (b p c : Nat) (v : Value) (M : Wm) (t k x : Int) (i : Nat) (s : Bool) (w : World) (h : At0 101 w b p c v M) (hi : i < M.W.length) (hL : M.L.length ≤ 50000) (x0 : 0 ≤ x) (x1 : x ≤ 18446744073709551615) :
    Calls Tryz.prog 99 #[.pointer (some ⟨b, 0, none⟩), .int .i64 t, .int .i64 (i : Nat), .int .u8 k, .int .u64 x, .bool s] w fun e w' => e = .returned (.tuple #[]) ∧ After 101 b p v.ownBlock (M.put t (i : Nat) k x s) w w' := by
  have c0 := h.c0
  have c1 := h.c1
  have f1 := h.f1
  have hlt := h.lt
  have hplt := h.plt
  obtain ⟨hW, hF⟩ := h.word hi
  have n1 := h.n1
  have c1' : (w.setCell ⟨p, i, none⟩ (.int .u64 x)).cell? ⟨b, 1, none⟩ = some v := (World.cell?_setCell_other _ _ _ _ (fun e => h.pb (congrArg Addr.block e))).trans c1
  have hv : ∀ q, v.ownBlock = some q → q < w.heap.size := fun q hq => (h.log.lt q hq).2
  obtain ⟨o, ho⟩ : ∃ o : Obj, o = .cells #[.int .i64 t, .int .i64 (i : Nat), .int .u8 k, .int .u64 (M.get (i : Nat)), .int .u64 x, .bool s] 145 := ⟨_, rfl⟩
  have hsz : (w.setCell ⟨p, i, none⟩ (.int .u64 x)).heap.size = w.heap.size := by simp
  have BB : Below w.heap.size (w.setCell ⟨p, i, none⟩ (.int .u64 x)) (((w.setCell ⟨p, i, none⟩ (.int .u64 x)).alloc o).alloc o).drew := by
    have := below_drewN (bel_alloc (bel_alloc (Below.refl (w.setCell ⟨p, i, none⟩ (.int .u64 x)).heap.size (w.setCell ⟨p, i, none⟩ (.int .u64 x))) o) o) 1
    rw [hsz] at this
    exact this
  have HW := (h.setW hi x0 x1).below (by rw [hsz]; exact BB)
  have NB : (((w.setCell ⟨p, i, none⟩ (.int .u64 x)).alloc o).alloc o).drew.heap[w.heap.size + 1]? = some o := by
    have := heap_alloc_new ((w.setCell ⟨p, i, none⟩ (.int .u64 x)).alloc o) o
    rw [World.size_alloc, hsz] at this; exact this
  rw [ho] at BB HW NB
  have HF : Fr (Of b p v.ownBlock) w (w.setCell ⟨p, i, none⟩ (.int .u64 x)) := (Fr.of_below (Below.refl _ w)).set _ _ (.inr (.inl rfl))
  have HB := Lib.hid BB
  have HR := Lib.hid HW
  have HN := Lib.hid NB
  have HV := Lib.hid hv
  have HFF := Lib.hid HF
  have HP := Lib.hid (show M.put t (i : Nat) k x s = ⟨M.W.set i x, M.L ++ [⟨t, (i : Nat), k, M.get (i : Nat), x, s⟩]⟩ by rw [Wm.put, Int.toNat_natCast])
  clear BB HW NB ho h hv HF
  rw [HP.out]
  go_enter Tryz.func99, Tryz.ntmps99
  go_wp2
  go_region_law ((refine stepA (by rfl) (.tmp 37) (.tmp 39) (by rfl) _ _ v M.L ⟨t, (i : Nat), k, M.get (i : Nat), x, s⟩ (by rfl) (by rfl) HN.out HR.out.log (by omega) ?_; intro g cap w1 own1 grow1 at1; have kb := grow1.block b HR.out.lt (fun e => HR.out.qb e.symm); have k1 := (World.cell?_of_block (a := ⟨b, 1, none⟩) kb).trans HR.out.c1; have k2 := (World.frozen?_of_block (a := ⟨b, 1, none⟩) kb).trans HR.out.f1))
  all_goals
    go_wp2
    go_end0
    exact ⟨rfl, (logged_end (by rw [hsz]; exact HB.out) HR.out (by rw [hsz]; exact HV.out) own1 grow1 at1).behind HFF.out⟩
/-! ### the calls -/
set_option maxRecDepth 100000 in
set_option maxHeartbeats 1000000 in
theorem loadR_any (b p : Nat) (q : Option Nat) (M : Wm) (t a : Int) (w : World) (h : At 101 w b p q M) (hL : M.L.length ≤ 50000) :
    Calls Tryz.prog 83 #[.pointer (some ⟨b, 0, none⟩), .int .i64 t, .int .i64 a] w (LoP 101 b p q M t a w) := by
  obtain ⟨c, v, rfl, h⟩ := h
  unfold LoP wrdT
  by_cases he : M.err t a = 0
  · obtain ⟨t0, t1, a0, a1⟩ := Wm.err_zero he
    obtain ⟨i, rfl⟩ := Int.eq_ofNat_of_zero_le a0
    have hi : i < M.W.length := by omega
    have C := check_any b p c v M t i w h
    rw [he] at C
    replace C := Lib.hid C
    have c0 := h.c0
    have hW := (h.word hi).1
    have n1 := h.n1
    have hbd := Wm.get_bd h.bd (i : Nat)
    have CN := Lib.hid (access_any b p c v M t 1 (M.get (i : Nat)) i false w h hi hL hbd.1 hbd.2)
    have HE := Lib.hid (show M.after (M.err t (i : Nat)) (M.load t (i : Nat)) = M.put t (i : Nat) 1 (M.get (i : Nat)) false by rw [he, Wm.after_zero, Wm.load])
    rw [if_pos he, HE.out, he]
    clear h he hbd
    go_enter Tryz.func83, Tryz.ntmps83
    go_wp2_with fail
    refine C.out.mono ?_
    rintro r w1 ⟨rfl, rfl⟩
    go_wp2_with fail
    refine CN.out.mono ?_
    rintro r w2 ⟨rfl, hA⟩
    have HA := Lib.hid hA
    clear hA
    go_wp2
    go_ret2
    exact ⟨rfl, HA.out⟩
  · have C := check_any b p c v M t a w h
    have t0 : decide (M.err t a = 0) = false := decide_eq_false he
    have t1 : (M.err t a == 0) = false := beq_eq_false_iff_ne.2 he
    have t2 : (M.err t a != 0) = true := by simp [bne, t1]
    have HE := Lib.hid (show M.after (M.err t a) (M.load t a) = M from Wm.after_ne he)
    rw [HE.out]
    rw [if_neg he]
    have HA := Lib.hid (After.same (ty := 101) ⟨c, v, rfl, h⟩ (Below.refl _ w))
    clear h he HE
    generalize M.err t a = y at *
    replace C := Lib.hid C
    go_enter Tryz.func83, Tryz.ntmps83
    go_wp2_with fail
    refine C.out.mono ?_
    rintro r w1 ⟨rfl, rfl⟩
    go_wp2
    go_ret2
    exact ⟨rfl, HA.out⟩
set_option maxRecDepth 100000 in
set_option maxHeartbeats 1000000 in
theorem storeR_any (b p : Nat) (q : Option Nat) (M : Wm) (t a x : Int) (w : World) (h : At 101 w b p q M) (hL : M.L.length ≤ 50000) (x0 : 0 ≤ x) (x1 : x ≤ 18446744073709551615) :
    Calls Tryz.prog 84 #[.pointer (some ⟨b, 0, none⟩), .int .i64 t, .int .i64 a, .int .u64 x] w (StP 101 b p q M t a x w) := by
  obtain ⟨c, v, rfl, h⟩ := h
  unfold StP
  by_cases he : M.err t a = 0
  · obtain ⟨t0, t1, a0, a1⟩ := Wm.err_zero he
    obtain ⟨i, rfl⟩ := Int.eq_ofNat_of_zero_le a0
    have hi : i < M.W.length := by omega
    have C := check_any b p c v M t i w h
    rw [he] at C
    replace C := Lib.hid C
    have c0 := h.c0
    have hW := (h.word hi).1
    have n1 := h.n1
    have hbd := Wm.get_bd h.bd (i : Nat)
    have CN := Lib.hid (access_any b p c v M t 2 x i false w h hi hL x0 x1)
    have HE := Lib.hid (show M.after (M.err t (i : Nat)) (M.stor t (i : Nat) x) = M.put t (i : Nat) 2 x false by rw [he, Wm.after_zero, Wm.stor])
    rw [HE.out, he]
    clear h he hbd
    go_enter Tryz.func84, Tryz.ntmps84
    go_wp2_with fail
    refine C.out.mono ?_
    rintro r w1 ⟨rfl, rfl⟩
    go_wp2_with fail
    refine CN.out.mono ?_
    rintro r w2 ⟨rfl, hA⟩
    have HA := Lib.hid hA
    clear hA
    go_wp2
    go_ret
    exact ⟨rfl, HA.out⟩
  · have C := check_any b p c v M t a w h
    have t0 : decide (M.err t a = 0) = false := decide_eq_false he
    have t1 : (M.err t a == 0) = false := beq_eq_false_iff_ne.2 he
    have t2 : (M.err t a != 0) = true := by simp [bne, t1]
    have HE := Lib.hid (show M.after (M.err t a) (M.stor t a x) = M from Wm.after_ne he)
    rw [HE.out]
    have HA := Lib.hid (After.same (ty := 101) ⟨c, v, rfl, h⟩ (Below.refl _ w))
    clear h he HE
    generalize M.err t a = y at *
    replace C := Lib.hid C
    go_enter Tryz.func84, Tryz.ntmps84
    go_wp2_with fail
    refine C.out.mono ?_
    rintro r w1 ⟨rfl, rfl⟩
    go_wp2
    go_ret
    exact ⟨rfl, HA.out⟩
set_option maxRecDepth 100000 in
set_option maxHeartbeats 1000000 in
theorem casR_any (b p : Nat) (q : Option Nat) (M : Wm) (t a o x : Int) (w : World) (h : At 101 w b p q M) (hL : M.L.length ≤ 50000) (x0 : 0 ≤ x) (x1 : x ≤ 18446744073709551615) :
    Calls Tryz.prog 87 #[.pointer (some ⟨b, 0, none⟩), .int .i64 t, .int .i64 a, .int .u64 o, .int .u64 x] w (CaP 101 b p q M t a o x w) := by
  obtain ⟨c, v, rfl, h⟩ := h
  unfold CaP casT
  by_cases he : M.err t a = 0
  · obtain ⟨t0, t1, a0, a1⟩ := Wm.err_zero he
    obtain ⟨i, rfl⟩ := Int.eq_ofNat_of_zero_le a0
    have hi : i < M.W.length := by omega
    have C := check_any b p c v M t i w h
    rw [he] at C
    replace C := Lib.hid C
    have c0 := h.c0
    have hW := (h.word hi).1
    have n1 := h.n1
    have hbd := Wm.get_bd h.bd (i : Nat)
    by_cases ho : M.get (i : Nat) = o
    · have u0 : (M.get (i : Nat) == o) = true := by simp [ho]
      have u1 : decide (M.get (i : Nat) = o) = true := decide_eq_true ho
      have CN := Lib.hid (access_any b p c v M t 4 x i true w h hi hL x0 x1)
      have HE := Lib.hid (show M.after (M.err t (i : Nat)) (M.cas t (i : Nat) o x) = M.put t (i : Nat) 4 x true by rw [he, Wm.after_zero, Wm.cas, if_pos ho])
      rw [decide_eq_true (show M.err t (i : Nat) = 0 ∧ M.get (i : Nat) = o from ⟨he, ho⟩), HE.out, he]
      clear h he hbd ho
      go_enter Tryz.func87, Tryz.ntmps87
      go_wp2_with fail
      refine C.out.mono ?_
      rintro r w1 ⟨rfl, rfl⟩
      go_wp2_with fail
      refine CN.out.mono ?_
      rintro r w2 ⟨rfl, hA⟩
      have HA := Lib.hid hA
      clear hA
      go_wp2
      go_ret2
      exact ⟨rfl, HA.out⟩
    · have u0 : (M.get (i : Nat) == o) = false := by simp [ho]
      have u1 : decide (M.get (i : Nat) = o) = false := decide_eq_false ho
      have CN := Lib.hid (access_any b p c v M t 4 (M.get (i : Nat)) i false w h hi hL hbd.1 hbd.2)
      have HE := Lib.hid (show M.after (M.err t (i : Nat)) (M.cas t (i : Nat) o x) = M.put t (i : Nat) 4 (M.get (i : Nat)) false by rw [he, Wm.after_zero, Wm.cas, if_neg ho])
      rw [decide_eq_false (show ¬ (M.err t (i : Nat) = 0 ∧ M.get (i : Nat) = o) from fun h => ho h.2), HE.out, he]
      clear h he hbd ho
      go_enter Tryz.func87, Tryz.ntmps87
      go_wp2_with fail
      refine C.out.mono ?_
      rintro r w1 ⟨rfl, rfl⟩
      go_wp2_with fail
      refine CN.out.mono ?_
      rintro r w2 ⟨rfl, hA⟩
      have HA := Lib.hid hA
      clear hA
      go_wp2
      go_ret2
      exact ⟨rfl, HA.out⟩
  · rw [decide_eq_false (show ¬ (M.err t a = 0 ∧ M.get a = o) from fun h => he h.1)]
    have C := check_any b p c v M t a w h
    have t0 : decide (M.err t a = 0) = false := decide_eq_false he
    have t1 : (M.err t a == 0) = false := beq_eq_false_iff_ne.2 he
    have t2 : (M.err t a != 0) = true := by simp [bne, t1]
    have HE := Lib.hid (show M.after (M.err t a) (M.cas t a o x) = M from Wm.after_ne he)
    rw [HE.out]
    have HA := Lib.hid (After.same (ty := 101) ⟨c, v, rfl, h⟩ (Below.refl _ w))
    clear h he HE
    generalize M.err t a = y at *
    replace C := Lib.hid C
    go_enter Tryz.func87, Tryz.ntmps87
    go_wp2_with fail
    refine C.out.mono ?_
    rintro r w1 ⟨rfl, rfl⟩
    go_wp2
    go_ret2
    exact ⟨rfl, HA.out⟩
end Wd
end Go.Proofs.YtdkkpaofodicjaaGreat
namespace Go.Proofs.YtdkkpaofodicjaaGreat
open Go.RowKit Go.Sort
set_option linter.unusedVariables false
set_option linter.unusedSimpArgs false
set_option maxRecDepth 100000
namespace Wd
open Dm (addr_lit info_parts spot_none RdK flatU infoU bel_alloc bel_trans own_keep below_drewN)
theorem qL {P : Program} {f : FuncId} {args : Array Value} {w : World} {n : Nat} {v : Value}
    (h : Calls P f args (w.drewN n) fun e w' => e = .returned v ∧ w' = w.drewN n) : Calls P f args (w.drewN n) fun e w' => e = .returned v ∧ ∃ m, w' = w.drewN m :=
  h.mono fun _ _ ⟨he, hm⟩ => ⟨he, n, hm⟩
theorem qA {P : Program} {f : FuncId} {args : Array Value} {w : World} {a n : Nat} {v : Value}
    (h : Calls P f args (w.drewN (a + n)) fun e w' => e = .returned v ∧ w' = w.drewN (a + n)) : Calls P f args (w.drewN (a + n)) fun e w'' => e = .returned v ∧ ∃ m, w'' = w.drewN (a + m) :=
  h.mono fun _ _ ⟨he, hm⟩ => ⟨he, n, hm⟩
/-- what possible answers -/
def okP (l : List Int) (x : Ac) (w : World) (e : Ending) (w' : World) : Prop := e = .returned (.bool (decide (ok l x))) ∧ Below w.heap.size w w'
theorem okP_no {l : List Int} {x : Ac} {w w' : World} (h : ¬ ok l x) (hb : Below w.heap.size w w') : okP l x w (.returned (.bool false)) w' := ⟨by rw [decide_eq_false h], hb⟩
theorem okP_yes {l : List Int} {x : Ac} {w w' : World} (h : ok l x) (hb : Below w.heap.size w w') : okP l x w (.returned (.bool true)) w' := ⟨by rw [decide_eq_true h], hb⟩
theorem ok_iff {l : List Int} {x : Ac} (h1 : 0 ≤ x.t ∧ x.t < 64) (h2 : 0 ≤ x.a ∧ x.a < l.length) (h3 : x.o = l.getD x.a.toNat 0) : ok l x ↔ ((x.k = 1 ∧ x.n = x.o ∧ x.s = false) ∨ ((x.k = 2 ∨ x.k = 3) ∧ x.s = false) ∨ (x.k = 4 ∧ (x.s = true ∨ x.n = x.o))) :=
  ⟨fun h => h.2.2.2, fun h => ⟨h1, h2, h3, h⟩⟩
end Wd
end Go.Proofs.YtdkkpaofodicjaaGreat
namespace Go.Proofs.YtdkkpaofodicjaaGreat
open Go.RowKit Go.Sort
set_option linter.unusedVariables false
set_option linter.unusedSimpArgs false
set_option maxRecDepth 100000
namespace Wd
open Dm (addr_lit info_parts spot_none RdK flatU infoU bel_alloc bel_trans own_keep below_drewN)
/-- what Replay hands out -/
def RpP (W : List Int) (L : List Ac) (w : World) (e : Ending) (w' : World) : Prop :=
  ((newE W.length ≠ 0 ∧ e = .returned (.tuple #[.slice none 0 0, .int .i64 0, .int .i64 (newE W.length)])) ∨
   (newE W.length = 0 ∧ ∃ i : Nat, scan W L 0 = (none, i) ∧ e = .returned (.tuple #[.slice none 0 0, .int .i64 (i : Nat), .int .i64 16])) ∨
   (newE W.length = 0 ∧ ∃ W' A c, scan W L 0 = (some W', L.length) ∧ e = .returned (.tuple #[.slice A W'.length c, .int .i64 (L.length : Nat), .int .i64 0]) ∧ RdK .u64 w' A W')) ∧ Below w.heap.size w w'
theorem ok_addr {W : List Int} {x : Ac} (h : ok W x) : ∃ i : Nat, x.a = (i : Int) ∧ i < W.length := by
  obtain ⟨i, hi⟩ := Int.eq_ofNat_of_zero_le h.2.1.1
  exact ⟨i, hi, by have := h.2.1.2; omega⟩
/-- the numbers of accesses -/
structure BdA1 (x : Ac) : Prop where
  t0 : -9223372036854775808 ≤ x.t
  t1 : x.t ≤ 9223372036854775807
  a0 : -9223372036854775808 ≤ x.a
  a1 : x.a ≤ 9223372036854775807
  k0 : 0 ≤ x.k
  k1 : x.k ≤ 255
  o0 : 0 ≤ x.o
  o1 : x.o ≤ 18446744073709551615
  n0 : 0 ≤ x.n
  n1 : x.n ≤ 18446744073709551615
def BdA (l : List Ac) : Prop := ∀ x, x ∈ l → BdA1 x
theorem ac_get {L : List Ac} {j : Nat} (h : j < L.length) : ∃ x, L[j]? = some x := ⟨_, List.getElem?_eq_getElem h⟩
theorem drop_ac {L : List Ac} {i : Nat} {x : Ac} (h : L[i]? = some x) : L.drop i = x :: L.drop (i + 1) := by
  obtain ⟨hi, e⟩ := List.getElem?_eq_some_iff.1 h
  rw [List.drop_eq_getElem_cons hi, e]
theorem rowU_rd {w : World} {base g n c : Nat} {l : List Int} {e : TypeId} (h : w.ownsRow base e 1 (.slice (some ⟨g, 0, none⟩) n c) n (flatU l)) : RdK .u64 w (some ⟨g, 0, none⟩) l := fun k hk => by
  have hl : l.length = n := by have := h.1; simpa [flatU] using this
  exact ⟨g, 0, rfl, by rw [Nat.zero_add]; exact own_cell h hl (by omega)⟩
theorem len_snoc (W : List Int) (i : Nat) (x : Int) : (W.set i x).length = W.length := by simp
end Wd
end Go.Proofs.YtdkkpaofodicjaaGreat
namespace Go.Proofs.YtdkkpaofodicjaaGreat
open Go.RowKit Go.Sort
set_option linter.unusedVariables false
set_option linter.unusedSimpArgs false
set_option maxRecDepth 100000
namespace Wd
open Dm (addr_lit info_parts spot_none RdK flatU infoU bel_alloc bel_trans own_keep below_drewN ret_eq)
theorem ext_ac {l m : List Ac} {n : Nat} (hl : l.length = n) (hm : m.length = n) (h : ∀ t, t < n → l[t]? = m[t]?) : l = m := by
  apply List.ext_getElem?
  intro i
  by_cases hi : i < n
  · exact h i hi
  · rw [List.getElem?_eq_none (by omega), List.getElem?_eq_none (by omega)]
/-- '==' of two accesses -/
theorem eqA (x y : Ac) (w : World) : (Op.equalIn 10000 145 (.agg #[.int .i64 x.t, .int .i64 x.a, .int .u8 x.k, .int .u64 x.o, .int .u64 x.n, .bool x.s]) (.agg #[.int .i64 y.t, .int .i64 y.a, .int .u8 y.k, .int .u64 y.o, .int .u64 y.n, .bool y.s])).run Tryz.prog w = .ok (decide (x = y)) w := by
  have u3 := Tryz.underlying101
  have a3 := Tryz.isAgg101
  have z3 := Tryz.sizeOf101
  have u4 := Tryz.underlying4
  have a4 := Tryz.isAgg4
  have z4 := Tryz.sizeOf4
  have u5 := Tryz.underlying5
  have a5 := Tryz.isAgg5
  have z5 := Tryz.sizeOf5
  have u6 := Tryz.underlying3
  have a6 := Tryz.isAgg3
  have z6 := Tryz.sizeOf3
  have hS : Tryz.prog.underlying 145 = some (.struct (Tryz.prog.fieldsOf 145)) := by kernel_rfl
  have hp : Tryz.prog.stoodInHeld 145 = false := by kernel_rfl
  rw [show (10000 : Nat) = 9999 + 1 from rfl, run_equalIn_agg w 9999 145 _ _ hS hp]
  simp only [Program.fieldsOf, Tryz.underlying145]
  go_simp
  obtain ⟨t, a, k, o, n, s⟩ := x
  obtain ⟨t', a', k', o', n', s'⟩ := y
  simp only [Ac.mk.injEq]
  by_cases h1 : t = t' <;> by_cases h2 : a = a' <;> by_cases h3 : k = k' <;> by_cases h4 : o = o' <;> by_cases h5 : n = n' <;> by_cases h6 : s = s' <;> simp [h1, h2, h3, h4, h5, h6]
theorem guardA : Tryz.prog.eqGuardType Tryz.prog.depth 145 = false := by kernel_rfl
attribute [go_sem] guardA
set_option maxRecDepth 100000 in
set_option maxHeartbeats 1000000 in
theorem eqa_any (A B : Option Addr) (m c q d : Nat) (l r : List Ac) (w : World) (hm : l.length = m) (hq : r.length = q) (hx : m ≤ 100000) (hy : q ≤ 100000) (hl : RdA w A l) (hr : RdA w B r) :
    Calls Tryz.prog 27 #[.slice A m c, .slice B q d] w fun e w' => e = .returned (.bool (decide (l = r))) ∧ Below w.heap.size w w' := by
  have HL := Lib.hid hl; clear hl
  have HR := Lib.hid hr; clear hr
  have HM := Lib.hid hm; clear hm
  have HQ := Lib.hid hq; clear hq
  by_cases hmq : m = q
  · subst hmq
    have t0 : ((m : Int) != m) = false := by simp
    go_enter Tryz.func27, Tryz.ntmps27
    go_wp2
    go_loopw [5] (fun i wr => ∃ j : Nat, j ≤ m ∧ i = .int .i64 j ∧ (∀ t : Nat, t < j → l[t]? = r[t]?) ∧ Below w.heap.size w wr) (fun i _ => (m - intOf i).toNat)
    case atStart => exact ⟨0, Nat.zero_le _, rfl, fun t h => absurd h (Nat.not_lt_zero _), Below.refl _ _⟩
    case round =>
      obtain ⟨j, hj, rfl, hE, bel⟩ := hrel
      have HE := Lib.hid hE; clear hE
      by_cases hlt : j < m
      · obtain ⟨x, hx⟩ := ac_get (show j < l.length by rw [HM.out]; exact hlt)
        obtain ⟨y, hy⟩ := ac_get (show j < r.length by rw [HQ.out]; exact hlt)
        obtain ⟨b, o, rfl, g0, g1, g2, g3, g4, g5⟩ := (HL.out.below bel) j x hx
        obtain ⟨b', o', rfl, k0, k1, k2, k3, k4, k5⟩ := (HR.out.below bel) j y hy
        have t1 : decide ((j : Int) < m) = true := by simp; omega
        have hji : (j : Int) < m := by omega
        have ER := fun W => eqA x y W
        by_cases hxy : x = y
        · have HN := Lib.hid (show ∀ t : Nat, t < j + 1 → l[t]? = r[t]? from fun t ht => by
            by_cases h : t < j
            · exact HE.out t h
            · obtain rfl : t = j := by omega
              rw [hx, hy, hxy])
          rw [decide_eq_true hxy] at ER
          clear hx hy hxy
          go_wp2
          go_quiet (fail)
          go_wp2
          go_roundw
          case rel => exact ⟨j + 1, by omega, by go_num, HN.out, below_drewN bel _⟩
          case measure => simp [intOf]; omega
        · have HN := Lib.hid (show ¬ l = r from fun h => hxy (by rw [h, hy] at hx; exact (Option.some.inj hx).symm))
          rw [decide_eq_false hxy] at ER
          clear hx hy hxy
          go_wp2
          go_quiet (fail)
          go_wp2
          go_ret
          exact ⟨ret_eq (congrArg Value.bool (decide_eq_false HN.out).symm), below_drewN bel _⟩
      · obtain rfl : j = m := by omega
        have HN := Lib.hid (show l = r from ext_ac HM.out HQ.out HE.out)
        have t1 : decide ((j : Int) < j) = false := by simp
        go_wp2
        go_ret
        exact ⟨ret_eq (congrArg Value.bool (decide_eq_true HN.out).symm), bel⟩
  · have HN := Lib.hid (show ¬ l = r from fun h => hmq (by rw [← HM.out, ← HQ.out, h]))
    have t0 : ((m : Int) != q) = true := by simp; omega
    go_enter Tryz.func27, Tryz.ntmps27
    go_wp2
    go_ret
    exact ⟨ret_eq (congrArg Value.bool (decide_eq_false HN.out).symm), Below.refl _ _⟩
theorem mod_val (i : Int) (n : Nat) (h0 : 0 < n) (h1 : n ≤ 65536) : (wrap64 (i.tmod (n : Int) + (n : Int))).tmod (n : Int) = i % (n : Int) := by
  have b1 := Int.tmod_lt_of_pos i (show (0 : Int) < n by omega)
  have b2 : -(n : Int) < i.tmod n := by
    have := Int.tmod_lt_of_pos (-i) (show (0 : Int) < n by omega)
    rw [Int.neg_tmod] at this
    omega
  rw [IntWalk.wrap64_in _ (by omega), Int.tmod_eq_emod_of_nonneg (by omega), Int.tmod_def, show i - (n : Int) * i.tdiv n + n = i + (n : Int) * (1 - i.tdiv n) by rw [Int.mul_sub, Int.mul_one]; omega, Int.add_mul_emod_self_left]
end Wd
end Go.Proofs.YtdkkpaofodicjaaGreat
namespace Go.Proofs.YtdkkpaofodicjaaGreat
open Go.RowKit Go.Sort
set_option linter.unusedVariables false
set_option linter.unusedSimpArgs false
set_option maxRecDepth 100000
namespace Wd
open Dm (addr_lit info_parts spot_none RdK flatU infoU bel_alloc bel_trans own_keep below_drewN)
/-- the memory M of package words and the memory N of the reference, apart from each other, from B on -/
structure Dp (B : Nat) (w : World) (b br p : Nat) (q : Option Nat) (p' : Nat) (q' : Option Nat) (M N : Wm) : Prop where
  l : At 106 w b p q M
  r : At 101 w br p' q' N
  d : ∀ i, Of b p q i → ¬ Of br p' q' i
  bl : ∀ i, Of b p q i → B ≤ i
  bR : ∀ i, Of br p' q' i → B ≤ i
theorem Dp.below {B : Nat} {w w' : World} {b br p : Nat} {q : Option Nat} {p' : Nat} {q' : Option Nat} {M N : Wm} (h : Dp B w b br p q p' q' M N) (hb : Below w.heap.size w w') : Dp B w' b br p q p' q' M N := ⟨h.l.below hb, h.r.below hb, h.d, h.bl, h.bR⟩
theorem Dp.le {B : Nat} {w : World} {b br p : Nat} {q : Option Nat} {p' : Nat} {q' : Option Nat} {M N : Wm} (h : Dp B w b br p q p' q' M N) : B ≤ w.heap.size := by
  have h1 := h.bl b (.inl rfl)
  have h2 := h.l.lt b (.inl rfl)
  omega
theorem Dp.left {B : Nat} {w w' : World} {b br p : Nat} {q : Option Nat} {p' : Nat} {q' : Option Nat} {M M' N : Wm} (h : Dp B w b br p q p' q' M N) (ha : After 106 b p q M' w w') :
    ∃ q1, Dp B w' b br p q1 p' q' M' N ∧ Below B w w' ∧ (∀ i, i < w.heap.size → ¬ Of b p q i → w'.heap[i]? = w.heap[i]?) ∧ w.heap.size ≤ w'.heap.size := by
  obtain ⟨q1, h1, h2, h3⟩ := ha
  have hof : ∀ i, Of b p q1 i → Of b p q i ∨ w.heap.size ≤ i := fun i hi => by
    rcases hi with e | e | e
    · exact .inl (.inl e)
    · exact .inl (.inr (.inl e))
    · exact (h2 i e).imp (fun e => .inr (.inr e)) id
  have hle := h.le
  refine ⟨q1, ⟨h1, h.r.keep fun i hi ho => h3.block i hi fun e => h.d i e ho, fun i hi ho => ?_, fun i hi => ?_, h.bR⟩, h3.below hle fun i hi e => by have := h.bl i e; omega, h3.block, h3.size⟩
  · rcases hof i hi with e | e
    · exact h.d i e ho
    · have := h.r.lt i ho; omega
  · rcases hof i hi with e | e
    · exact h.bl i e
    · omega
theorem Dp.right {B : Nat} {w w' : World} {b br p : Nat} {q : Option Nat} {p' : Nat} {q' : Option Nat} {M N N' : Wm} (h : Dp B w b br p q p' q' M N) (ha : After 101 br p' q' N' w w') :
    ∃ q1, Dp B w' b br p q p' q1 M N' ∧ Below B w w' ∧ (∀ i, i < w.heap.size → ¬ Of br p' q' i → w'.heap[i]? = w.heap[i]?) ∧ w.heap.size ≤ w'.heap.size := by
  obtain ⟨q1, h1, h2, h3⟩ := ha
  have hof : ∀ i, Of br p' q1 i → Of br p' q' i ∨ w.heap.size ≤ i := fun i hi => by
    rcases hi with e | e | e
    · exact .inl (.inl e)
    · exact .inl (.inr (.inl e))
    · exact (h2 i e).imp (fun e => .inr (.inr e)) id
  have hle := h.le
  refine ⟨q1, ⟨h.l.keep fun i hi ho => h3.block i hi fun e => h.d i ho e, h1, fun i hi ho => ?_, h.bl, fun i hi => ?_⟩, h3.below hle fun i hi e => by have := h.bR i e; omega, h3.block, h3.size⟩
  · rcases hof i ho with e | e
    · exact h.d i hi e
    · have := h.l.lt i hi; omega
  · rcases hof i hi with e | e
    · exact h.bR i e
    · omega
/-- both memories are M -/
def Du (B : Nat) (w : World) (b br : Nat) (M : Wm) : Prop := ∃ p q p' q', Dp B w b br p q p' q' M M
theorem Du.below {B : Nat} {w w' : World} {b br : Nat} {M : Wm} (h : Du B w b br M) (hb : Below w.heap.size w w') : Du B w' b br M := by
  obtain ⟨p, q, p', q', h⟩ := h
  exact ⟨p, q, p', q', h.below hb⟩
/-- the numbers of a deed -/
structure BdD1 (x : Dd) : Prop where
  d0 : 0 ≤ x.d
  d1 : x.d ≤ 255
  t0 : -9223372036854775808 ≤ x.t
  t1 : x.t ≤ 9223372036854775807
  a0 : -9223372036854775808 ≤ x.a
  a1 : x.a ≤ 9223372036854775807
  o0 : 0 ≤ x.o
  o1 : x.o ≤ 18446744073709551615
  v0 : 0 ≤ x.v
  v1 : x.v ≤ 18446744073709551615
def BdD (l : List Dd) : Prop := ∀ x, x ∈ l → BdD1 x
/-- what a deed makes of the memory, where its thread and address may not exist -/
def Wm.does (M : Wm) (x : Dd) : Wm := if x.d % 5 = 4 then M else M.after (M.err x.t x.a) (M.deed x)
def ClP (B b br : Nat) (M : Wm) (w : World) (e : Ending) (w' : World) : Prop := e = .returned (.bool true) ∧ Du B w' b br M ∧ Below B w w'
theorem loadZ (b p : Nat) (q : Option Nat) (M : Wm) (t a : Int)  (z y : Int) (w : World) (h : At 106 w b p q M) (hL : M.L.length ≤ 50000) (hy : y = M.err t a) (hz : z = if M.err t a = 0 then M.get a else 0) :
    Calls Tryz.prog 78 #[.pointer (some ⟨b, 0, none⟩), .int .i64 t, .int .i64 a] w fun e w' => e = .returned (.tuple #[.int .u64 z, .int .i64 y]) ∧ After 106 b p q (M.after y (M.load t a)) w w' := by
  subst hy hz
  exact load_any b p q M t a  w h hL 
theorem loadRZ (b p : Nat) (q : Option Nat) (M : Wm) (t a : Int)  (z y : Int) (w : World) (h : At 101 w b p q M) (hL : M.L.length ≤ 50000) (hy : y = M.err t a) (hz : z = if M.err t a = 0 then M.get a else 0) :
    Calls Tryz.prog 83 #[.pointer (some ⟨b, 0, none⟩), .int .i64 t, .int .i64 a] w fun e w' => e = .returned (.tuple #[.int .u64 z, .int .i64 y]) ∧ After 101 b p q (M.after y (M.load t a)) w w' := by
  subst hy hz
  exact loadR_any b p q M t a  w h hL 
theorem storeZ (b p : Nat) (q : Option Nat) (M : Wm) (t a : Int) (x : Int) (y : Int) (w : World) (h : At 106 w b p q M) (hL : M.L.length ≤ 50000) (x0 : 0 ≤ x) (x1 : x ≤ 18446744073709551615) (hy : y = M.err t a) :
    Calls Tryz.prog 82 #[.pointer (some ⟨b, 0, none⟩), .int .i64 t, .int .i64 a, .int .u64 x] w fun e w' => e = .returned (.int .i64 y) ∧ After 106 b p q (M.after y (M.stor t a x)) w w' := by
  subst hy
  exact store_any b p q M t a x w h hL x0 x1
theorem storeRZ (b p : Nat) (q : Option Nat) (M : Wm) (t a : Int) (x : Int) (y : Int) (w : World) (h : At 101 w b p q M) (hL : M.L.length ≤ 50000) (x0 : 0 ≤ x) (x1 : x ≤ 18446744073709551615) (hy : y = M.err t a) :
    Calls Tryz.prog 84 #[.pointer (some ⟨b, 0, none⟩), .int .i64 t, .int .i64 a, .int .u64 x] w fun e w' => e = .returned (.int .i64 y) ∧ After 101 b p q (M.after y (M.stor t a x)) w w' := by
  subst hy
  exact storeR_any b p q M t a x w h hL x0 x1
theorem casZ (b p : Nat) (q : Option Nat) (M : Wm) (t a : Int) (o x : Int) (z : Bool) (y : Int) (w : World) (h : At 106 w b p q M) (hL : M.L.length ≤ 50000) (x0 : 0 ≤ x) (x1 : x ≤ 18446744073709551615) (hy : y = M.err t a) (hz : z = decide (M.err t a = 0 ∧ M.get a = o)) :
    Calls Tryz.prog 96 #[.pointer (some ⟨b, 0, none⟩), .int .i64 t, .int .i64 a, .int .u64 o, .int .u64 x] w fun e w' => e = .returned (.tuple #[.bool z, .int .i64 y]) ∧ After 106 b p q (M.after y (M.cas t a o x)) w w' := by
  subst hy hz
  exact cas_any b p q M t a o x w h hL x0 x1
theorem casRZ (b p : Nat) (q : Option Nat) (M : Wm) (t a : Int) (o x : Int) (z : Bool) (y : Int) (w : World) (h : At 101 w b p q M) (hL : M.L.length ≤ 50000) (x0 : 0 ≤ x) (x1 : x ≤ 18446744073709551615) (hy : y = M.err t a) (hz : z = decide (M.err t a = 0 ∧ M.get a = o)) :
    Calls Tryz.prog 87 #[.pointer (some ⟨b, 0, none⟩), .int .i64 t, .int .i64 a, .int .u64 o, .int .u64 x] w fun e w' => e = .returned (.tuple #[.bool z, .int .i64 y]) ∧ After 101 b p q (M.after y (M.cas t a o x)) w w' := by
  subst hy hz
  exact casR_any b p q M t a o x w h hL x0 x1
end Wd
end Go.Proofs.YtdkkpaofodicjaaGreat
namespace Go.Proofs.YtdkkpaofodicjaaGreat
open Go.RowKit Go.Sort Go.ChangeShapes Go.WideShapes Go.Deep
set_option linter.unusedVariables false
set_option linter.unusedSimpArgs false
set_option maxRecDepth 100000
namespace Wd
open Dm (addr_lit info_parts spot_none RdK flatU infoU bel_alloc bel_trans own_keep below_drewN)
/-- the cells of a deed at ⟨b, o⟩ -/
structure D5 (w : World) (b o : Nat) (x : Dd) : Prop where
  c0 : w.cell? ⟨b, o, none⟩ = some (.int .u8 x.d)
  c1 : w.cell? ⟨b, o + 1, none⟩ = some (.int .i64 x.t)
  c2 : w.cell? ⟨b, o + 2, none⟩ = some (.int .i64 x.a)
  c3 : w.cell? ⟨b, o + 3, none⟩ = some (.int .u64 x.o)
  c4 : w.cell? ⟨b, o + 4, none⟩ = some (.int .u64 x.v)
theorem D5.keep {w w' : World} {b o : Nat} {x : Dd} (h : D5 w b o x) (hb : w'.heap[b]? = w.heap[b]?) : D5 w' b o x := by
  have k : ∀ j, w'.cell? ⟨b, j, none⟩ = w.cell? ⟨b, j, none⟩ := fun j => World.cell?_of_block (a := ⟨b, j, none⟩) hb
  exact ⟨(k _).trans h.c0, (k _).trans h.c1, (k _).trans h.c2, (k _).trans h.c3, (k _).trans h.c4⟩
/-- from the address A on lie the deeds l -/
def RdD (w : World) (A : Option Addr) (l : List Dd) : Prop := ∀ (i : Nat) (x : Dd), l[i]? = some x → ∃ b o, A = some ⟨b, o, none⟩ ∧ D5 w b (o + i * 5) x
theorem RdD.below {w w' : World} {A : Option Addr} {l : List Dd} (h : RdD w A l) (hb : Below w.heap.size w w') : RdD w' A l := by
  intro i x hi
  obtain ⟨b, o, e, c⟩ := h i x hi
  exact ⟨b, o, e, c.keep (hb.block b (World.block_lt_of_cell? w _ c.c0))⟩
theorem dd_get {L : List Dd} {j : Nat} (h : j < L.length) : ∃ x, L[j]? = some x ∧ x ∈ L := ⟨_, List.getElem?_eq_getElem h, List.getElem_mem h⟩
/-! ### what a run makes -/
def nrm (n : Nat) (x : Dd) : Dd := ⟨x.d, x.t % 64, x.a % (n : Int), x.o, x.v⟩
def step (n : Nat) (M : Wm) (x : Dd) : Wm := M.deed (nrm n x)
def runM (W : List Int) (l : List Dd) : Wm := l.foldl (step W.length) ⟨W, []⟩
theorem run_snoc (W : List Int) (l : List Dd) (x : Dd) : runM W (l ++ [x]) = step W.length (runM W l) x := by simp [runM]
theorem take_dd {L : List Dd} {j : Nat} {x : Dd} (h : L[j]? = some x) : L.take (j + 1) = L.take j ++ [x] := by rw [List.take_add_one, h]; rfl
/-- a memory that accesses led to -/
structure Gd (W : List Int) (M : Wm) : Prop where
  w : M.W = lead W M.L
  g : Good W M.L
theorem Gd.len {W : List Int} {M : Wm} (h : Gd W M) : M.W.length = W.length := by rw [h.w, lead_len]
theorem Gd.put {W : List Int} {M : Wm} {t a k n : Int} {s : Bool} (h : Gd W M) (hx : ok M.W ⟨t, a, k, M.get a, n, s⟩) : Gd W (M.put t a k n s) := by
  refine ⟨?_, h.g.snoc (by rw [← h.w]; exact hx)⟩
  show M.W.set a.toNat n = lead W (M.L ++ [⟨t, a, k, M.get a, n, s⟩])
  rw [lead_snoc, ← h.w]
theorem Gd.step {W : List Int} {M : Wm} (h : Gd W M) (h0 : 0 < W.length) (x : Dd) : Gd W (step W.length M x) ∧ (step W.length M x).L.length ≤ M.L.length + 1 := by
  have ht : 0 ≤ x.t % 64 ∧ x.t % 64 < 64 := by omega
  have ha : 0 ≤ x.a % (W.length : Int) ∧ x.a % (W.length : Int) < M.W.length := by
    rw [h.len]
    exact ⟨Int.emod_nonneg _ (by omega), Int.emod_lt_of_pos _ (by omega)⟩
  unfold Wd.step Wm.deed nrm
  simp only
  by_cases c0 : x.d % 5 = 0
  · rw [if_pos c0]
    exact ⟨h.put ⟨ht, ha, rfl, .inl ⟨rfl, rfl, rfl⟩⟩, by simp [Wm.load, Wm.put]⟩
  rw [if_neg c0]
  by_cases c1 : x.d % 5 = 1
  · rw [if_pos c1]
    exact ⟨h.put ⟨ht, ha, rfl, .inr (.inl ⟨.inl rfl, rfl⟩)⟩, by simp [Wm.stor, Wm.put]⟩
  rw [if_neg c1]
  by_cases c2 : x.d % 5 = 2
  · rw [if_pos c2]
    exact ⟨h.put ⟨ht, ha, rfl, .inr (.inl ⟨.inr rfl, rfl⟩)⟩, by simp [Wm.addw, Wm.put]⟩
  rw [if_neg c2]
  by_cases c3 : x.d % 5 = 3
  · rw [if_pos c3]
    unfold Wm.cas
    split
    · exact ⟨h.put ⟨ht, ha, rfl, .inr (.inr ⟨rfl, .inl rfl⟩)⟩, by simp [Wm.put]⟩
    · exact ⟨h.put ⟨ht, ha, rfl, .inr (.inr ⟨rfl, .inr rfl⟩)⟩, by simp [Wm.put]⟩
  · rw [if_neg c3]; exact ⟨h, Nat.le_succ _⟩
theorem run_good (W : List Int) (h0 : 0 < W.length) : ∀ l : List Dd, Gd W (runM W l) ∧ (runM W l).L.length ≤ l.length := fun l => by
  have key : ∀ (l : List Dd) (M : Wm), Gd W M → Gd W (l.foldl (step W.length) M) ∧ (l.foldl (step W.length) M).L.length ≤ M.L.length + l.length := by
    intro l
    induction l with
    | nil => intro M h; exact ⟨h, Nat.le_refl _⟩
    | cons x l ih =>
      intro M h
      obtain ⟨h1, h2⟩ := h.step h0 x
      obtain ⟨h3, h4⟩ := ih _ h1
      exact ⟨h3, by simp only [List.foldl_cons, List.length_cons]; omega⟩
  have := key l ⟨W, []⟩ ⟨rfl, fun i x hx => by simp at hx⟩
  exact ⟨this.1, by have h := this.2; simp only [List.length_nil, Nat.zero_add] at h; exact h⟩
/-! ### run -/
/-- what run hands out -/
def RnP (M : Wm) (w : World) (e : Ending) (w' : World) : Prop := ∃ b p q, e = .returned (.pointer (some ⟨b, 0, none⟩)) ∧ At 106 w' b p q M ∧ (∀ i, Of b p q i → w.heap.size ≤ i) ∧ Below w.heap.size w w'
theorem newE_ok {n : Nat} (h0 : 0 < n) (h1 : n ≤ 300) : newE n = 0 := by unfold newE; rw [if_neg (by omega), if_neg (by omega)]
end Wd
end Go.Proofs.YtdkkpaofodicjaaGreat
namespace Go.Proofs.YtdkkpaofodicjaaGreat
open Go.RowKit Go.Sort Go.ChangeShapes Go.WideShapes Go.Deep
set_option linter.unusedVariables false
set_option linter.unusedSimpArgs false
set_option maxRecDepth 100000
namespace Wd
open Dm (addr_lit spot_none)
theorem array5 {α : Type} {cs : Array α} (h : cs.size = 5) : ∃ c0 c1 c2 c3 c4, cs = #[c0, c1, c2, c3, c4] := by
  obtain ⟨l⟩ := cs
  match l, h with
  | [c0, c1, c2, c3, c4], _ => exact ⟨c0, c1, c2, c3, c4, rfl⟩
theorem list5 {α : Type} {l : List α} (h : l.length = 5) : ∃ c0 c1 c2 c3 c4, l = [c0, c1, c2, c3, c4] := by
  match l, h with
  | [c0, c1, c2, c3, c4], _ => exact ⟨c0, c1, c2, c3, c4, rfl⟩
section
variable {H : Type} {enc : TypeId × Value → H} {P : Program} {w : World} {base : Nat} {spare : Nat → Bool} {held : Bool}
theorem open_agg5 {r : Reach} {b0 : Nat} {t : TypeId} {f0 f1 f2 f3 f4 : Field} {v : Value} {d : DataW H} {p : List MemPlace} (hs : P.underlying t = some (.struct #[f0, f1, f2, f3, f4])) (hone : oneCellFields P #[f0, f1, f2, f3, f4] = true) (hC : P.cellsOf t = 5)
    (hv : Value.okWide P w r b0 t v) (h : DataW.Trod enc P w base spare held t v d p) :
    ∃ (v0 v1 v2 v3 v4 : Value) (y0 y1 y2 y3 y4 : DataW H × List MemPlace) (n : Nat), v = .agg #[v0, v1, v2, v3, v4] ∧ d = .agg [y0.1, y1.1, y2.1, y3.1, y4.1] ∧ p = y0.2 ++ (y1.2 ++ (y2.2 ++ (y3.2 ++ y4.2))) ∧
      DataW.trod enc P w base spare held n f0.type [v0] = some y0 ∧ DataW.trod enc P w base spare held n f1.type [v1] = some y1 ∧ DataW.trod enc P w base spare held n f2.type [v2] = some y2 ∧ DataW.trod enc P w base spare held n f3.type [v3] = some y3 ∧ DataW.trod enc P w base spare held n f4.type [v4] = some y4 := by
  obtain ⟨cs, rfl, hsz⟩ := okWide_struct hs hv
  obtain ⟨u0, u1, u2, u3, u4, rfl⟩ := array5 (hsz.trans hC)
  obtain ⟨fuel, hf⟩ := h
  obtain ⟨xs, n, _, hx, _, hlen, hat⟩ := DataW.trod_struct hs hf
  obtain ⟨z0, z1, z2, z3, z4, rfl⟩ := list5 hlen
  have at0 := hat 0 f0 rfl
  have at1 := hat 1 f1 rfl
  have at2 := hat 2 f2 rfl
  have at3 := hat 3 f3 rfl
  have at4 := hat 4 f4 rfl
  obtain ⟨o0, k0⟩ := hone_of hone 0 f0 rfl
  obtain ⟨o1, k1⟩ := hone_of hone 1 f1 rfl
  obtain ⟨o2, k2⟩ := hone_of hone 2 f2 rfl
  obtain ⟨o3, k3⟩ := hone_of hone 3 f3 rfl
  obtain ⟨o4, k4⟩ := hone_of hone 4 f4 rfl
  rw [o0, k0] at at0
  rw [o1, k1] at at1
  rw [o2, k2] at at2
  rw [o3, k3] at at3
  rw [o4, k4] at at4
  obtain ⟨hd, hp⟩ := Prod.mk.inj hx
  exact ⟨u0, u1, u2, u3, u4, z0, z1, z2, z3, z4, n, rfl, by simpa using hd, by simpa using hp, by simpa [Value.cells] using at0, by simpa [Value.cells] using at1, by simpa [Value.cells] using at2, by simpa [Value.cells] using at3, by simpa [Value.cells] using at4⟩
end
section
variable {H : Type} {enc : TypeId × Value → H} {P : Program} {w : World} {base : Nat} {spare : Nat → Bool} {held : Bool}
theorem open_slice_fields {t e : TypeId} {fs : Array Field} {fuel : Nat} {cs : List Value} {x : DataW H × List MemPlace} (ht : P.underlying t = some (.slice e)) (he : P.underlying e = some (.struct fs))
    (hone : oneCellFields P fs = true) (hC : P.cellsOf e = fs.size) (h : DataW.trod enc P w base spare held fuel t cs = some x) :
    (cs = [.slice none 0 0] ∧ x = (.nil, [])) ∨
    ∃ (a : Addr) (len cap m : Nat) (D : Nat → DataW H) (Pl : Nat → List MemPlace), cs = [.slice (some a) len cap] ∧ base ≤ a.block ∧ len ≤ cap ∧ cap ≤ maxLen ∧ m = (if spare a.block then cap else len) ∧
      x = (.slice ((List.range len).map D) ((List.range (m - len)).map fun j => D (len + j)), MemPlace.row a (m * fs.size) ++ (List.range m).flatMap Pl) ∧
      ∀ i, i < m → ∃ (ys : List (DataW H × List MemPlace)) (n : Nat), D i = .agg (ys.map (·.1)) ∧ Pl i = ys.flatMap (·.2) ∧ ys.length = fs.size ∧
        ∀ (j : Nat) (f : Field), fs[j]? = some f → ∃ (v : Value) (y : DataW H × List MemPlace), w.cell? (a.add (i * fs.size + j)) = some v ∧ ys[j]? = some y ∧ DataW.trod enc P w base spare held n f.type [v] = some y := by
  rcases open_slice ht h with h0 | ⟨a, len, cap, m, n, D, Pl, hcs, hb, hl, hm, hmm, hx, hi⟩
  · exact .inl h0
  · refine .inr ⟨a, len, cap, m, D, Pl, hcs, hb, hl, hm, hmm, by rw [hC] at hx; exact hx, fun i him => ?_⟩
    obtain ⟨cs', hc, ht'⟩ := hi i him
    rw [hC] at hc
    obtain ⟨ys, n', hn', hy, hlen, hyl, hf⟩ := DataW.trod_struct he ht'
    obtain ⟨_, hcl, hat⟩ := World.cells?_some hc
    simp only [Prod.mk.injEq] at hy
    refine ⟨ys, n', hy.1, hy.2, hyl, fun j f hj => ?_⟩
    obtain ⟨ho, hk⟩ := hone_of hone j f hj
    have hjl : j < fs.size := (Array.getElem?_eq_some_iff.1 hj).1
    have hcell := hat j hjl
    have hv : cs'[j]? = some (cs'[j]'(by omega)) := List.getElem?_eq_getElem (by omega)
    have h1 := hf j f hj
    rw [ho, hk] at h1
    have hone' : (cs'.drop j).take 1 = [cs'[j]'(by omega)] := by
      rw [List.drop_eq_getElem_cons (by omega)]
      rfl
    rw [hone'] at h1
    have hys : ys[j]? = some (ys[j]'(by omega)) := List.getElem?_eq_getElem (by omega)
    refine ⟨_, _, ?_, hys, h1.trans hys⟩
    rw [← Go.Deep.add_add, hcell, hv]
end
section
variable {H : Type} {enc : TypeId × Value → H} {w : World} {base b0 : Nat} {spare : Nat → Bool} {held : Bool} {r : Reach}
end
theorem cellsOf_acc : Tryz.prog.cellsOf 145 = 6 := by kernel_rfl
section
variable {H : Type} {enc : TypeId × Value → H} {w : World} {base b0 : Nat} {spare : Nat → Bool} {held : Bool} {r : Reach}
set_option maxRecDepth 100000 in
theorem open_accs {v : Value} {d : DataW H} {p : List MemPlace} (hv : Value.okWide Tryz.prog w r b0 76 v) (h : DataW.Trod enc Tryz.prog w base spare held 76 v d p) :
    ∃ (A : Option Addr) (n c : Nat) (l : List Ac), v = .slice A n c ∧ l.length = n ∧ n ≤ maxLen ∧ RdA w A l ∧ BdA l ∧ (A = none → c = 0) := by
  obtain ⟨A, n, c, rfl⟩ := okWide_slice Tryz.underlying76 hv
  obtain ⟨fuel, hf⟩ := h
  rcases open_slice_fields Tryz.underlying76 Tryz.underlying145 (by kernel_rfl) cellsOf_acc hf with ⟨hcs, hx⟩ | ⟨a, len, cap, m, D, Pl, hcs, hb, hl, hm, hmm, hx, hi⟩
  · simp [Value.cells] at hcs
    obtain ⟨rfl, rfl, rfl⟩ := hcs
    exact ⟨none, 0, 0, [], rfl, rfl, Nat.zero_le _, fun k x hk => by simp at hk, fun x hx => (by cases hx), fun _ => rfl⟩
  · simp [Value.cells] at hcs
    obtain ⟨rfl, rfl, rfl⟩ := hcs
    have hlm : n ≤ m := by rw [hmm]; split <;> omega
    have each : ∀ i, i < n → ∃ x : Ac, BdA1 x ∧ w.cell? (a.add (i * 6)) = some (.int .i64 x.t) ∧ w.cell? (a.add (i * 6 + 1)) = some (.int .i64 x.a) ∧ w.cell? (a.add (i * 6 + 2)) = some (.int .u8 x.k) ∧ w.cell? (a.add (i * 6 + 3)) = some (.int .u64 x.o) ∧ w.cell? (a.add (i * 6 + 4)) = some (.int .u64 x.n) ∧ w.cell? (a.add (i * 6 + 5)) = some (.bool x.s) := by
      intro i hin
      obtain ⟨ys, q, _, _, _, hfl⟩ := hi i (by omega)
      obtain ⟨v0, y0, c0, _, t0⟩ := hfl 0 _ rfl
      obtain ⟨v1, y1, c1, _, t1⟩ := hfl 1 _ rfl
      obtain ⟨v2, y2, c2, _, t2⟩ := hfl 2 _ rfl
      obtain ⟨v3, y3, c3, _, t3⟩ := hfl 3 _ rfl
      obtain ⟨v4, y4, c4, _, t4⟩ := hfl 4 _ rfl
      obtain ⟨v5, y5, c5, _, t5⟩ := hfl 5 _ rfl
      obtain ⟨x0, e0, _, w0⟩ := DataW.trod_int Tryz.underlying3 t0
      obtain ⟨x1, e1, _, w1⟩ := DataW.trod_int Tryz.underlying3 t1
      obtain ⟨x2, e2, _, w2⟩ := DataW.trod_int Tryz.underlying5 t2
      obtain ⟨x3, e3, _, w3⟩ := DataW.trod_int Tryz.underlying101 t3
      obtain ⟨x4, e4, _, w4⟩ := DataW.trod_int Tryz.underlying101 t4
      obtain ⟨x5, e5, _⟩ := DataW.trod_bool Tryz.underlying4 t5
      simp at e0 e1 e2 e3 e4 e5
      subst e0 e1 e2 e3 e4 e5
      exact ⟨⟨x0, x1, x2, x3, x4, x5⟩, ⟨(bounds_i64 w0).1, (bounds_i64 w0).2, (bounds_i64 w1).1, (bounds_i64 w1).2, (bounds_u8 w2).1, (bounds_u8 w2).2, (bounds_u64 w3).1, (bounds_u64 w3).2, (bounds_u64 w4).1, (bounds_u64 w4).2⟩, c0, c1, c2, c3, c4, c5⟩
    have each' : ∃ g : Nat → Ac, ∀ i, i < n → BdA1 (g i) ∧ w.cell? (a.add (i * 6)) = some (.int .i64 (g i).t) ∧ w.cell? (a.add (i * 6 + 1)) = some (.int .i64 (g i).a) ∧ w.cell? (a.add (i * 6 + 2)) = some (.int .u8 (g i).k) ∧ w.cell? (a.add (i * 6 + 3)) = some (.int .u64 (g i).o) ∧ w.cell? (a.add (i * 6 + 4)) = some (.int .u64 (g i).n) ∧ w.cell? (a.add (i * 6 + 5)) = some (.bool (g i).s) := by
      refine ⟨fun i => if hi : i < n then Classical.choose (each i hi) else ⟨0, 0, 0, 0, 0, false⟩, fun i hi => ?_⟩
      simp only [dif_pos hi]
      exact Classical.choose_spec (each i hi)
    obtain ⟨g, hg⟩ := each'
    refine ⟨some a, n, c, (List.range n).map g, rfl, by simp, by omega, ?_, ?_, fun h => (by cases h)⟩
    · intro k x hk
      have hkn : k < n := by have := (List.getElem?_eq_some_iff.1 hk).1; simpa using this
      rw [List.getElem?_map, List.getElem?_range hkn] at hk
      simp only [Option.map_some, Option.some.injEq] at hk
      subst hk
      obtain ⟨b, o, s⟩ := a
      obtain ⟨_, z0, _⟩ := hg 0 (by omega)
      have hs : s = none := spot_none (a := ⟨b, o, s⟩) (by simpa [Addr.add] using z0)
      subst hs
      obtain ⟨_, c0, c1, c2, c3, c4, c5⟩ := hg k hkn
      rw [addr_lit] at c0 c1 c2 c3 c4 c5
      exact ⟨b, o, rfl, ⟨c0, c1, c2, c3, c4, c5⟩⟩
    · intro x hx
      simp only [List.mem_map, List.mem_range] at hx
      obtain ⟨i, hin, rfl⟩ := hx
      exact (hg i hin).1
end
end Wd
end Go.Proofs.YtdkkpaofodicjaaGreat
namespace Go.Proofs.YtdkkpaofodicjaaGreat
open Go.RowKit Go.Sort
set_option linter.unusedVariables false
set_option linter.unusedSimpArgs false
set_option maxRecDepth 100000
namespace Wd
open Dm (addr_lit info_parts spot_none RdK flatU infoU bel_alloc bel_trans own_keep below_drewN)
structure Mb (M : Wm) : Prop where
  w : BdW M.W
  l : BdA M.L
theorem Mb.put {M : Wm} {t a k n : Int} {s : Bool} (h : Mb M) (ht : 0 ≤ t ∧ t < 64) (ha : 0 ≤ a ∧ a < 65536) (hk : 0 ≤ k ∧ k ≤ 4) (hn : 0 ≤ n ∧ n ≤ 18446744073709551615) : Mb (M.put t a k n s) := by
  refine ⟨Wm.bd_put h.w t a k s hn.1 hn.2, fun x hx => ?_⟩
  rcases List.mem_append.1 (show x ∈ M.L ++ [⟨t, a, k, M.get a, n, s⟩] from hx) with h1 | h1
  · exact h.l x h1
  · obtain rfl := List.mem_singleton.1 h1
    have hg := Wm.get_bd h.w a
    exact ⟨by show _ ≤ t; omega, by show t ≤ _; omega, by show _ ≤ a; omega, by show a ≤ _; omega, hk.1, by show k ≤ _; omega, hg.1, hg.2, hn.1, hn.2⟩
theorem Mb.step {W : List Int} {M : Wm} (h : Mb M) (hg : Gd W M) (h0 : 0 < W.length) (h1 : W.length ≤ 65536) {x : Dd} (bx : BdD1 x) : Mb (step W.length M x) := by
  have ht : 0 ≤ x.t % 64 ∧ x.t % 64 < 64 := by omega
  have ha : 0 ≤ x.a % (W.length : Int) ∧ x.a % (W.length : Int) < 65536 := by
    have h2 := Int.emod_nonneg x.a (show (W.length : Int) ≠ 0 by omega)
    have h3 := Int.emod_lt_of_pos x.a (show (0 : Int) < W.length by omega)
    omega
  unfold Wd.step Wm.deed nrm
  simp only
  by_cases c0 : x.d % 5 = 0
  · rw [if_pos c0]; exact h.put ht ha ⟨by omega, by omega⟩ (Wm.get_bd h.w _)
  rw [if_neg c0]
  by_cases c1 : x.d % 5 = 1
  · rw [if_pos c1]; exact h.put ht ha ⟨by omega, by omega⟩ ⟨bx.v0, bx.v1⟩
  rw [if_neg c1]
  by_cases c2 : x.d % 5 = 2
  · rw [if_pos c2]; exact h.put ht ha ⟨by omega, by omega⟩ (M.sum_bd _ _)
  rw [if_neg c2]
  by_cases c3 : x.d % 5 = 3
  · rw [if_pos c3]
    unfold Wm.cas
    split
    · exact h.put ht ha ⟨by omega, by omega⟩ ⟨bx.v0, bx.v1⟩
    · exact h.put ht ha ⟨by omega, by omega⟩ (Wm.get_bd h.w _)
  · rw [if_neg c3]; exact h
theorem run_bd (W : List Int) (h0 : 0 < W.length) (h1 : W.length ≤ 65536) (hW : BdW W) : ∀ l : List Dd, BdD l → Mb (runM W l) := fun l hl => by
  have key : ∀ (l : List Dd) (M : Wm), Gd W M → Mb M → BdD l → Mb (l.foldl (step W.length) M) := by
    intro l
    induction l with
    | nil => intro M _ h _; exact h
    | cons x l ih =>
      intro M hg h hl
      exact ih _ (hg.step h0 x).1 (h.step hg h0 h1 (hl x (.head _))) fun y hy => hl y (.tail _ hy)
  exact key l ⟨W, []⟩ ⟨rfl, fun i x hx => by simp at hx⟩ ⟨hW, fun x hx => by cases hx⟩ hl
/-- the words on the way -/
theorem lead_next {W : List Int} {L : List Ac} {k i : Nat} {y : Ac} (hy : L[k]? = some y) (ha : 0 ≤ y.a) (hi : i < W.length) :
    (lead W (L.take (k + 1))).getD i 0 = if y.a = (i : Int) then y.n else (lead W (L.take k)).getD i 0 := by
  rw [List.take_add_one, hy]
  show (lead W (L.take k ++ [y])).getD i 0 = _
  rw [lead_snoc, List.getD_eq_getElem?_getD, List.getElem?_set]
  by_cases e : y.a = (i : Int)
  · rw [if_pos e, if_pos (by omega), if_pos (by rw [lead_len]; omega)]; rfl
  · rw [if_neg e, if_neg (by omega), List.getD_eq_getElem?_getD]
theorem good_at {W : List Int} {L : List Ac} (h : Good W L) {i : Nat} {x : Ac} (hx : L[i]? = some x) : ∃ a : Nat, x.a = (a : Int) ∧ a < W.length ∧ x.o = (lead W (L.take i)).getD a 0 := by
  have ho := h i x hx
  obtain ⟨a, ea, la⟩ := ok_addr ho
  rw [lead_len] at la
  refine ⟨a, ea, la, ?_⟩
  have := ho.2.2.1
  rw [ea, Int.toNat_natCast] at this
  exact this
/-- one access saw another number -/
def spoil (L : List Ac) (k : Nat) (y : Int) : List Ac := match L[k]? with
  | some x => L.set k { x with o := y }
  | none => L
theorem spoil_eq {L : List Ac} {k : Nat} {x : Ac} (hx : L[k]? = some x) (y : Int) : spoil L k y = L.set k { x with o := y } := by unfold spoil; rw [hx]
theorem spoilt {W : List Int} {L : List Ac} {k : Nat} {x : Ac} {y : Int} (h : Good W L) (hx : L[k]? = some x) (hy : y ≠ x.o) : scan W (L.set k { x with o := y }) 0 = (none, k) := by
  have hk := (List.getElem?_eq_some_iff.1 hx).1
  have := scan_spoilt (L.set k { x with o := y }) W 0 k (fun j z hj hz => ?_) (fun z hz ho => ?_) (by simpa using hk)
  · rw [this, Nat.zero_add]
  · rw [List.getElem?_set_ne (by omega)] at hz
    rw [List.take_set_of_le (by omega)]
    exact h j z hz
  · rw [List.getElem?_set_self hk] at hz
    injection hz with hz
    rw [List.take_set_of_le (Nat.le_refl _)] at ho
    have h1 := (h k x hx).2.2.1
    have h2 := ho.2.2.1
    subst hz
    exact hy (h2.trans h1.symm)
theorem flatA_set : ∀ (L : List Ac) (k : Nat) (x : Ac) (y : Int), L[k]? = some x → (flatA L).set (k * 6 + 3) (.int .u64 y) = flatA (L.set k { x with o := y })
  | [], k, x, y, h => by simp at h
  | z :: L, 0, x, y, h => by
    have : z = x := by simpa using h
    subst this
    rfl
  | z :: L, k + 1, x, y, h => by
    have ih := flatA_set L k x y (by simpa using h)
    show (encA z ++ flatA L).set ((k + 1) * 6 + 3) _ = encA z ++ flatA (L.set k { x with o := y })
    rw [← ih, List.set_append_right _ _ (by simp [encA]; omega)]
    congr 2
    simp [encA]; omega
theorem from_zero (L : List Ac) : from_ L 0 = L := by
  unfold from_
  by_cases h : 0 < L.length
  · rw [if_pos ⟨Int.le_refl _, by omega⟩]; rfl
  · rw [if_neg (by omega)]
    exact (List.length_eq_zero_iff.1 (by omega)).symm
/-- a call's outcome, for a memory of the call's own -/
theorem after_own {ty : TypeId} {w w' : World} {B b p : Nat} {q : Option Nat} {N : Wm} (hO : ∀ i, Of b p q i → B ≤ i) (hB : B ≤ w.heap.size) (ha : After ty b p q N w w') : ∃ q', At ty w' b p q' N ∧ (∀ i, Of b p q' i → B ≤ i) ∧ Below B w w' := by
  obtain ⟨q', h1, h2, h3⟩ := ha
  refine ⟨q', h1, fun i hi => ?_, h3.below hB fun i hi e => by have := hO i e; omega⟩
  rcases hi with e | e | e
  · exact hO i (.inl e)
  · exact hO i (.inr (.inl e))
  · rcases h2 i e with h | h
    · exact hO i (.inr (.inr h))
    · omega
end Wd
end Go.Proofs.YtdkkpaofodicjaaGreat
