/- word, Load, Store, Add, CompareAndSwap, Peek, Len, Words and Log of package words: contracts of the translated code. Conditions: those of XWdC. -/
import Derived.Test.YtcipjjchclpgnaaWdC
import Derived.StillTailTactics
namespace Go.Proofs.Ytcipjjchclpgnaa
open Go.RowKit Go.Sort
set_option linter.unusedVariables false
set_option linter.unusedSimpArgs false
set_option maxRecDepth 100000
namespace Wd
open Dm (addr_lit info_parts spot_none RdK flatU infoU bel_alloc bel_trans own_keep below_drewN)
theorem word_nil (t a : Int) (w : World) :
    Calls Try.prog 76 #[.pointer none, .int .i64 t, .int .i64 a] w fun e w' => e = .returned (.tuple #[.pointer none, .int .i64 1]) ∧ w' = w := by
  go_enter Try.func76, Try.ntmps76
  go_wp2
  go_ret2
  exact ⟨rfl, rfl⟩
theorem word_bad (b p c : Nat) (v : Value) (M : Wm) (t a : Int) (w : World) (h : At0 97 w b p c v M) (he : M.err t a ≠ 0) :
    Calls Try.prog 76 #[.pointer (some ⟨b, 0, none⟩), .int .i64 t, .int .i64 a] w fun e w' => e = .returned (.tuple #[.pointer none, .int .i64 (M.err t a)]) ∧ w' = w := by
  have c0 := h.c0
  have C1 := Lib.hid (below_any t 64 w)
  have C2 := Lib.hid (below_any a M.W.length w)
  rcases M.err_cases t a with ⟨h1, e⟩ | ⟨h1, h2, e⟩ | ⟨i, _, _, _, e⟩
  · rw [e]
    rw [decide_eq_false h1] at C1
    clear h he
    go_enter Try.func76, Try.ntmps76
    go_wp2_with fail
    refine C1.out.mono ?_
    rintro r w1 ⟨rfl, rfl⟩
    go_wp2
    go_ret2
    exact ⟨rfl, rfl⟩
  · rw [e]
    rw [decide_eq_true h1] at C1
    rw [decide_eq_false h2] at C2
    clear h he
    go_enter Try.func76, Try.ntmps76
    go_wp2_with fail
    refine C1.out.mono ?_
    rintro r w1 ⟨rfl, rfl⟩
    go_wp2_with fail
    refine C2.out.mono ?_
    rintro r w1 ⟨rfl, rfl⟩
    go_wp2
    go_ret2
    exact ⟨rfl, rfl⟩
  · exact absurd e he
theorem word_ok (b p c : Nat) (v : Value) (M : Wm) (t : Int) (i : Nat) (w : World) (h : At0 97 w b p c v M) (h1 : 0 ≤ t ∧ t < 64) (h2 : i < M.W.length) :
    Calls Try.prog 76 #[.pointer (some ⟨b, 0, none⟩), .int .i64 t, .int .i64 (i : Nat)] w fun e w' => e = .returned (.tuple #[.pointer (some ⟨p, i, none⟩), .int .i64 0]) ∧ w' = w := by
  have c0 := h.c0
  have C1 := Lib.hid (below_any t 64 w)
  have C2 := Lib.hid (below_any (i : Nat) M.W.length w)
  rw [decide_eq_true h1] at C1
  rw [decide_eq_true (show 0 ≤ (i : Int) ∧ (i : Int) < M.W.length by omega)] at C2
  have hW := (h.word h2).1
  have n1 := h.n1
  clear h h1
  go_enter Try.func76, Try.ntmps76
  go_wp2_with fail
  refine C1.out.mono ?_
  rintro r w1 ⟨rfl, rfl⟩
  go_wp2_with fail
  refine C2.out.mono ?_
  rintro r w1 ⟨rfl, rfl⟩
  go_wp2
  go_ret2
  exact ⟨rfl, rfl⟩
/-! ### Load -/
def wrdT (M : Wm) (t a x : Int) : Value := .tuple #[.int .u64 (if M.err t a = 0 then x else 0), .int .i64 (M.err t a)]
def LoP (ty : TypeId) (b p : Nat) (q : Option Nat) (M : Wm) (t a : Int) (w : World) (e : Ending) (w' : World) : Prop := e = .returned (wrdT M t a (M.get a)) ∧ After ty b p q (M.after (M.err t a) (M.load t a)) w w'
set_option maxRecDepth 100000 in
set_option maxHeartbeats 1000000 in
theorem load_any (b p : Nat) (q : Option Nat) (M : Wm) (t a : Int) (w : World) (h : At 97 w b p q M) (hL : M.L.length ≤ 50000) :
    Calls Try.prog 64 #[.pointer (some ⟨b, 0, none⟩), .int .i64 t, .int .i64 a] w (LoP 97 b p q M t a w) := by
  obtain ⟨c, v, rfl, h⟩ := h
  unfold LoP wrdT
  by_cases he : M.err t a = 0
  · obtain ⟨t0, t1, a0, a1⟩ := Wm.err_zero he
    obtain ⟨i, rfl⟩ := Int.eq_ofNat_of_zero_le a0
    have hi : i < M.W.length := by omega
    have C := Lib.hid (word_ok b p c v M t i w h ⟨t0, t1⟩ hi)
    have CL := Lib.hid (aload p i _ w (h.word hi).1)
    have CN := Lib.hid (note_any b p c v M ⟨t, i, 1, M.get (i : Nat), M.get (i : Nat), false⟩ w h hL)
    have HE := Lib.hid (show M.after (M.err t (i : Nat)) (M.load t (i : Nat)) = ⟨M.W, M.L ++ [⟨t, (i : Nat), 1, M.get (i : Nat), M.get (i : Nat), false⟩]⟩ by rw [he, Wm.after_zero, Wm.load, Wm.put, Wm.set_get])
    rw [if_pos he, HE.out, he]
    clear h he
    unfold agA at CN
    go_enter Try.func64, Try.ntmps64
    go_wp2_with fail
    refine C.out.mono ?_
    rintro r w1 ⟨rfl, rfl⟩
    go_wp2_with fail
    refine CL.out.mono ?_
    rintro r w1 ⟨rfl, rfl⟩
    go_wp2_with fail
    refine CN.out.mono ?_
    rintro r w2 ⟨rfl, hA⟩
    have HA := Lib.hid hA
    clear hA
    go_wp2
    go_ret2
    exact ⟨rfl, HA.out⟩
  · have C := word_bad b p c v M t a w h he
    have t0 : decide (M.err t a = 0) = false := decide_eq_false he
    have t1 : (M.err t a == 0) = false := beq_eq_false_iff_ne.2 he
    have t2 : (M.err t a != 0) = true := by simp [bne, t1]
    have HE := Lib.hid (show M.after (M.err t a) (M.load t a) = M from Wm.after_ne he)
    rw [HE.out]
    rw [if_neg he]
    have HA := Lib.hid (After.same (ty := 97) ⟨c, v, rfl, h⟩ (Below.refl _ w))
    clear h he HE
    generalize M.err t a = y at *
    have C := Lib.hid C
    go_enter Try.func64, Try.ntmps64
    go_wp2_with fail
    refine C.out.mono ?_
    rintro r w1 ⟨rfl, rfl⟩
    go_wp2
    go_ret2
    exact ⟨rfl, HA.out⟩
/-! ### Store -/
def StP (ty : TypeId) (b p : Nat) (q : Option Nat) (M : Wm) (t a x : Int) (w : World) (e : Ending) (w' : World) : Prop := e = .returned (.int .i64 (M.err t a)) ∧ After ty b p q (M.after (M.err t a) (M.stor t a x)) w w'
set_option maxRecDepth 100000 in
set_option maxHeartbeats 1000000 in
theorem store_any (b p : Nat) (q : Option Nat) (M : Wm) (t a x : Int) (w : World) (h : At 97 w b p q M) (hL : M.L.length ≤ 50000) (x0 : 0 ≤ x) (x1 : x ≤ 18446744073709551615) :
    Calls Try.prog 68 #[.pointer (some ⟨b, 0, none⟩), .int .i64 t, .int .i64 a, .int .u64 x] w (StP 97 b p q M t a x w) := by
  obtain ⟨c, v, rfl, h⟩ := h
  unfold StP
  by_cases he : M.err t a = 0
  · obtain ⟨t0, t1, a0, a1⟩ := Wm.err_zero he
    obtain ⟨i, rfl⟩ := Int.eq_ofNat_of_zero_le a0
    have hi : i < M.W.length := by omega
    have C := Lib.hid (word_ok b p c v M t i w h ⟨t0, t1⟩ hi)
    have CL := Lib.hid (aswap p i _ x w (h.word hi).1 (h.word hi).2)
    have CN := Lib.hid (note_any b p c v ⟨M.W.set i x, M.L⟩ ⟨t, i, 2, M.get (i : Nat), x, false⟩ _ (h.setW hi x0 x1) hL)
    have HF : Fr (Of b p v.ownBlock) w (w.setCell ⟨p, i, none⟩ (.int .u64 x)) := (Fr.of_below (Below.refl _ w)).set _ _ (.inr (.inl rfl))
    have HF := Lib.hid HF
    have HE := Lib.hid (show M.after (M.err t (i : Nat)) (M.stor t (i : Nat) x) = ⟨M.W.set i x, M.L ++ [⟨t, (i : Nat), 2, M.get (i : Nat), x, false⟩]⟩ by rw [he, Wm.after_zero, Wm.stor, Wm.put, Int.toNat_natCast])
    rw [HE.out, he]
    clear h he
    unfold agA at CN
    go_enter Try.func68, Try.ntmps68
    go_wp2_with fail
    refine C.out.mono ?_
    rintro r w1 ⟨rfl, rfl⟩
    go_wp2_with fail
    refine CL.out.mono ?_
    rintro r w1 ⟨rfl, rfl⟩
    go_wp2_with fail
    refine CN.out.mono ?_
    rintro r w2 ⟨rfl, hA⟩
    have HA := Lib.hid hA
    clear hA
    go_wp2
    go_ret
    exact ⟨rfl, HA.out.behind HF.out⟩
  · have C := word_bad b p c v M t a w h he
    have t0 : decide (M.err t a = 0) = false := decide_eq_false he
    have t1 : (M.err t a == 0) = false := beq_eq_false_iff_ne.2 he
    have t2 : (M.err t a != 0) = true := by simp [bne, t1]
    have HE := Lib.hid (show M.after (M.err t a) (M.stor t a x) = M from Wm.after_ne he)
    rw [HE.out]
    have HA := Lib.hid (After.same (ty := 97) ⟨c, v, rfl, h⟩ (Below.refl _ w))
    clear h he HE
    generalize M.err t a = y at *
    have C := Lib.hid C
    go_enter Try.func68, Try.ntmps68
    go_wp2_with fail
    refine C.out.mono ?_
    rintro r w1 ⟨rfl, rfl⟩
    go_wp2
    go_ret
    exact ⟨rfl, HA.out⟩
/-! ### Add -/
def AdP (ty : TypeId) (b p : Nat) (q : Option Nat) (M : Wm) (t a x : Int) (w : World) (e : Ending) (w' : World) : Prop := e = .returned (wrdT M t a (M.sum a x)) ∧ After ty b p q (M.after (M.err t a) (M.addw t a x)) w w'
/-! ### CompareAndSwap -/
def casT (M : Wm) (t a o : Int) : Value := .tuple #[.bool (decide (M.err t a = 0 ∧ M.get a = o)), .int .i64 (M.err t a)]
def CaP (ty : TypeId) (b p : Nat) (q : Option Nat) (M : Wm) (t a o x : Int) (w : World) (e : Ending) (w' : World) : Prop := e = .returned (casT M t a o) ∧ After ty b p q (M.after (M.err t a) (M.cas t a o x)) w w'
set_option maxRecDepth 100000 in
set_option maxHeartbeats 1000000 in
theorem cas_any (b p : Nat) (q : Option Nat) (M : Wm) (t a o x : Int) (w : World) (h : At 97 w b p q M) (hL : M.L.length ≤ 50000) (x0 : 0 ≤ x) (x1 : x ≤ 18446744073709551615) :
    Calls Try.prog 79 #[.pointer (some ⟨b, 0, none⟩), .int .i64 t, .int .i64 a, .int .u64 o, .int .u64 x] w (CaP 97 b p q M t a o x w) := by
  obtain ⟨c, v, rfl, h⟩ := h
  unfold CaP casT
  by_cases he : M.err t a = 0
  · obtain ⟨t0, t1, a0, a1⟩ := Wm.err_zero he
    obtain ⟨i, rfl⟩ := Int.eq_ofNat_of_zero_le a0
    have hi : i < M.W.length := by omega
    have C := Lib.hid (word_ok b p c v M t i w h ⟨t0, t1⟩ hi)
    have CL := Lib.hid (aload p i _ w (h.word hi).1)
    by_cases ho : M.get (i : Nat) = o
    · subst ho
      have CS := Lib.hid (acas_hit p i _ x w (h.word hi).1 (h.word hi).2)
      have cM := World.cell?_setCell_same w ⟨p, i, none⟩ (.int .u64 x) (h.word hi).1
      have CM := Lib.hid (aload p i x _ cM)
      have CN := Lib.hid (note_any b p c v ⟨M.W.set i x, M.L⟩ ⟨t, i, 4, M.get (i : Nat), x, true⟩ _ (h.setW hi x0 x1) hL)
      have HF : Fr (Of b p v.ownBlock) w (w.setCell ⟨p, i, none⟩ (.int .u64 x)) := (Fr.of_below (Below.refl _ w)).set _ _ (.inr (.inl rfl))
      replace HF := Lib.hid HF
      have HE := Lib.hid (show M.after (M.err t (i : Nat)) (M.cas t (i : Nat) (M.get (i : Nat)) x) = ⟨M.W.set i x, M.L ++ [⟨t, (i : Nat), 4, M.get (i : Nat), x, true⟩]⟩ by rw [he, Wm.after_zero, Wm.cas, if_pos rfl, Wm.put, Int.toNat_natCast])
      rw [decide_eq_true (show M.err t (i : Nat) = 0 ∧ M.get (i : Nat) = M.get (i : Nat) from ⟨he, rfl⟩), HE.out, he]
      clear h he cM
      unfold agA at CN
      go_enter Try.func79, Try.ntmps79
      go_wp2_with fail
      refine C.out.mono ?_
      rintro r w1 ⟨rfl, rfl⟩
      go_wp2_with fail
      refine CL.out.mono ?_
      rintro r w1 ⟨rfl, rfl⟩
      go_wp2_with fail
      refine CS.out.mono ?_
      rintro r w1 ⟨rfl, rfl⟩
      go_wp2_with fail
      refine CM.out.mono ?_
      rintro r w1 ⟨rfl, rfl⟩
      go_wp2_with fail
      refine CN.out.mono ?_
      rintro r w2 ⟨rfl, hA⟩
      have HA := Lib.hid hA
      clear hA
      go_wp2
      go_ret2
      exact ⟨rfl, HA.out.behind HF.out⟩
    · have CS := Lib.hid (acas_miss p i _ o x w (h.word hi).1 (h.word hi).2 ho)
      have CN := Lib.hid (note_any b p c v M ⟨t, i, 4, M.get (i : Nat), M.get (i : Nat), false⟩ w h hL)
      have HE := Lib.hid (show M.after (M.err t (i : Nat)) (M.cas t (i : Nat) o x) = ⟨M.W, M.L ++ [⟨t, (i : Nat), 4, M.get (i : Nat), M.get (i : Nat), false⟩]⟩ by rw [he, Wm.after_zero, Wm.cas, if_neg ho, Wm.put, Wm.set_get])
      rw [decide_eq_false (show ¬ (M.err t (i : Nat) = 0 ∧ M.get (i : Nat) = o) from fun h => ho h.2), HE.out, he]
      clear h he ho
      unfold agA at CN
      go_enter Try.func79, Try.ntmps79
      go_wp2_with fail
      refine C.out.mono ?_
      rintro r w1 ⟨rfl, rfl⟩
      go_wp2_with fail
      refine CL.out.mono ?_
      rintro r w1 ⟨rfl, rfl⟩
      go_wp2_with fail
      refine CS.out.mono ?_
      rintro r w1 ⟨rfl, rfl⟩
      go_wp2_with fail
      refine CL.out.mono ?_
      rintro r w1 ⟨rfl, rfl⟩
      go_wp2_with fail
      refine CN.out.mono ?_
      rintro r w2 ⟨rfl, hA⟩
      have HA := Lib.hid hA
      clear hA
      go_wp2
      go_ret2
      exact ⟨rfl, HA.out⟩
  · rw [decide_eq_false (show ¬ (M.err t a = 0 ∧ M.get a = o) from fun h => he h.1)]
    have C := word_bad b p c v M t a w h he
    have t0 : decide (M.err t a = 0) = false := decide_eq_false he
    have t1 : (M.err t a == 0) = false := beq_eq_false_iff_ne.2 he
    have t2 : (M.err t a != 0) = true := by simp [bne, t1]
    have HE := Lib.hid (show M.after (M.err t a) (M.cas t a o x) = M from Wm.after_ne he)
    rw [HE.out]
    have HA := Lib.hid (After.same (ty := 97) ⟨c, v, rfl, h⟩ (Below.refl _ w))
    clear h he HE
    generalize M.err t a = y at *
    have C := Lib.hid C
    go_enter Try.func79, Try.ntmps79
    go_wp2_with fail
    refine C.out.mono ?_
    rintro r w1 ⟨rfl, rfl⟩
    go_wp2
    go_ret2
    exact ⟨rfl, HA.out⟩
/-! ### nil -/
theorem load_nil (t a : Int) (w : World) : Calls Try.prog 64 #[.pointer none, .int .i64 t, .int .i64 a] w fun e w' => e = .returned (.tuple #[.int .u64 0, .int .i64 1]) ∧ w' = w := by
  have C := Lib.hid (word_nil t a w)
  go_enter Try.func64, Try.ntmps64
  go_wp2_with fail
  refine C.out.mono ?_
  rintro r w1 ⟨rfl, rfl⟩
  go_wp2
  go_ret2
  exact ⟨rfl, rfl⟩
theorem store_nil (t a x : Int) (w : World) : Calls Try.prog 68 #[.pointer none, .int .i64 t, .int .i64 a, .int .u64 x] w fun e w' => e = .returned (.int .i64 1) ∧ w' = w := by
  have C := Lib.hid (word_nil t a w)
  go_enter Try.func68, Try.ntmps68
  go_wp2_with fail
  refine C.out.mono ?_
  rintro r w1 ⟨rfl, rfl⟩
  go_wp2
  go_ret
  exact ⟨rfl, rfl⟩
theorem peek_nil (a : Int) (w : World) : Calls Try.prog 38 #[.pointer none, .int .i64 a] w fun e w' => e = .returned (.tuple #[.int .u64 0, .bool false]) ∧ w' = w := by
  go_enter Try.func38, Try.ntmps38
  go_wp2
  go_ret2
  exact ⟨rfl, rfl⟩
/-! ### looking -/
def peekT (M : Wm) (a : Int) : Value := .tuple #[.int .u64 (if 0 ≤ a ∧ a < M.W.length then M.get a else 0), .bool (decide (0 ≤ a ∧ a < M.W.length))]
theorem peek_any (b p : Nat) (q : Option Nat) (M : Wm) (a : Int) (w : World) (h : At 97 w b p q M) : Calls Try.prog 38 #[.pointer (some ⟨b, 0, none⟩), .int .i64 a] w fun e w' => e = .returned (peekT M a) ∧ w' = w := by
  obtain ⟨c, v, rfl, h⟩ := h
  have c0 := h.c0
  have n1 := h.n1
  have C := below_any a M.W.length w
  unfold peekT
  by_cases hi : 0 ≤ a ∧ a < M.W.length
  · rw [if_pos hi, decide_eq_true hi]
    rw [decide_eq_true hi] at C
    obtain ⟨i, rfl⟩ := Int.eq_ofNat_of_zero_le hi.1
    have hi2 : i < M.W.length := by omega
    have CL := Lib.hid (aload p i _ w (h.word hi2).1)
    have hW := (h.word hi2).1
    have C := Lib.hid C
    clear h hi
    go_enter Try.func38, Try.ntmps38
    go_wp2_with fail
    refine C.out.mono ?_
    rintro r w1 ⟨rfl, rfl⟩
    go_wp2_with fail
    refine CL.out.mono ?_
    rintro r w1 ⟨rfl, rfl⟩
    go_wp2
    go_ret2
    exact ⟨rfl, rfl⟩
  · rw [if_neg hi, decide_eq_false hi]
    rw [decide_eq_false hi] at C
    have C := Lib.hid C
    clear h hi
    go_enter Try.func38, Try.ntmps38
    go_wp2_with fail
    refine C.out.mono ?_
    rintro r w1 ⟨rfl, rfl⟩
    go_wp2
    go_ret2
    exact ⟨rfl, rfl⟩
/-- the log from an index on -/
def from_ (L : List Ac) (i : Int) : List Ac := if 0 ≤ i ∧ i < L.length then L.drop i.toNat else []
end Wd
end Go.Proofs.Ytcipjjchclpgnaa
