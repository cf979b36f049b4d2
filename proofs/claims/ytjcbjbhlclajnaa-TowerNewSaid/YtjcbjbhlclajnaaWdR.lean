/- The reference's memory: New, check, access, Load, Store, Add, CompareAndSwap, Peek, Log: contracts of the translated code. Conditions: those of XWdC. -/
import Derived.Test.YtjcbjbhlclajnaaWdE
namespace Go.Proofs.Ytjcbjbhlclajnaa
open Go.RowKit Go.Sort
set_option linter.unusedVariables false
set_option linter.unusedSimpArgs false
set_option maxRecDepth 100000
namespace Wd
open Dm (addr_lit info_parts spot_none RdK flatU infoU bel_alloc bel_trans own_keep below_drewN)
set_option maxRecDepth 100000 in
set_option maxHeartbeats 1000000 in
theorem newR_any (A : Option Addr) (n c : Nat) (l : List Int) (w : World) (hl : l.length = n) (hn : n ≤ maxLen) (hr : RdK .u64 w A l) (hz : A = none → c = 0) (hd : BdW l) : Calls Try.prog 60 #[.slice A n c] w (NwP 27 l w) := by
  subst hl
  by_cases he : newE l.length = 0
  · obtain ⟨h0, h1⟩ := newE_zero he
    have HP := Lib.hid (show ∀ e w', (∃ b p, e = .returned (.tuple #[.pointer (some ⟨b, 0, none⟩), .int .i64 0]) ∧ At 27 w' b p none ⟨l, []⟩ ∧ w.heap.size ≤ b ∧ w.heap.size ≤ p ∧ Below w.heap.size w w') → NwP 27 l w e w' from fun e w' h => .inr ⟨he, h⟩)
    have HR := Lib.hid hr
    have HD := Lib.hid hd
    clear hr hd he
    have t0 : ((l.length : Int) == 0) = false := beq_eq_false_iff_ne.2 (by omega)
    have t1 : decide ((65536 : Int) < l.length) = false := decide_eq_false (by omega)
    have made : (w.alloc (.cells #[] 27)).ownsRow w.heap.size 27 1 (.slice (some ⟨w.heap.size, 0, none⟩) 0 0) 0 (flatU []) := World.ownsRow_made w #[] 0 (Nat.le_refl _) (Nat.zero_le _) (by simp)
    have B0 : Below w.heap.size w (w.alloc (.cells #[] 27)) := bel_alloc (Below.refl _ _) _
    go_enter Try.func60, Try.ntmps60
    go_wp2_with (at_builtin; refine Dm.appAll rfl (.tmp 10) (.tmp 11) rfl _ w.heap.size 0 _ [] A l.length c l rfl rfl made rfl (by omega) (by omega) (by simp) (HR.out.below B0) hz ?_; intro v2 w2 h2 b2; rw [Nat.zero_add, List.nil_append] at h2; obtain ⟨g, cap, rfl⟩ := Joins.ownsRow_form h2 h0)
    have hg := h2.lt g rfl
    have b3 : Below w.heap.size w w2 := B0.trans (b2.mono (Nat.le_refl _))
    have HA := Lib.hid (show At0 27 (w2.alloc (.cells #[.slice (some ⟨g, 0, none⟩) l.length cap, .slice none 0 0] 168)) w2.heap.size g cap (.slice none 0 0) ⟨l, []⟩ from
      ⟨by simp, by simp, by simp, (Joins.ownsRow_le h2 (Nat.zero_le _)).alloc _, World.ownsRow_nil _ _ _ _, by omega, (fun e => by cases e), (fun e => by cases e), HD.out, by simpa using h0, by simpa using h1⟩)
    clear h2 made b2
    go_wp2
    go_ret2
    exact HP.out _ _ ⟨w2.heap.size, g, rfl, ⟨_, _, rfl, HA.out⟩, b3.size, hg.1, bel_alloc b3 _⟩
  · have HP := Lib.hid (show NwP 27 l w (.returned (.tuple #[.pointer none, .int .i64 (newE l.length)])) w from .inl ⟨he, rfl, rfl⟩)
    clear hr hd hz
    rcases Nat.eq_zero_or_pos l.length with h0 | h0
    · have e : newE l.length = 2 := by unfold newE; rw [if_pos h0]
      rw [e] at HP
      rw [h0]
      have HP' : NwP 27 l w (.returned (.tuple #[.pointer none, .int .i64 2])) w := HP.out
      clear HP he
      have HP := Lib.hid HP'
      clear HP'
      go_enter Try.func60, Try.ntmps60
      go_wp2
      go_ret2
      exact HP.out
    · have h1 : 65536 < l.length := by
        refine Nat.lt_of_not_le fun h => he ?_
        unfold newE
        rw [if_neg (by omega), if_neg (by omega)]
      have e : newE l.length = 5 := by unfold newE; rw [if_neg (by omega), if_pos h1]
      rw [e] at HP
      clear he e
      have t0 : ((l.length : Int) == 0) = false := beq_eq_false_iff_ne.2 (by omega)
      have t1 : decide ((65536 : Int) < l.length) = true := decide_eq_true (by omega)
      go_enter Try.func60, Try.ntmps60
      go_wp2
      go_ret2
      exact HP.out
theorem check_nil (t a : Int) (w : World) : Calls Try.prog 90 #[.pointer none, .int .i64 t, .int .i64 a] w fun e w' => e = .returned (.int .i64 1) ∧ w' = w := by
  go_enter Try.func90, Try.ntmps90
  go_wp2
  go_ret
  exact ⟨rfl, rfl⟩
set_option maxHeartbeats 1000000 in
theorem check_any (b p c : Nat) (v : Value) (M : Wm) (t a : Int) (w : World) (h : At0 27 w b p c v M) :
    Calls Try.prog 90 #[.pointer (some ⟨b, 0, none⟩), .int .i64 t, .int .i64 a] w fun e w' => e = .returned (.int .i64 (M.err t a)) ∧ w' = w := by
  have c0 := h.c0
  have C1 := thread_any t w
  unfold Wm.err
  clear h
  by_cases h1 : 0 ≤ t ∧ t < 64
  · rw [decide_eq_true h1] at C1
    rw [if_pos h1]
    have C1 := Lib.hid C1
    clear h1
    by_cases h2 : 0 ≤ a
    · by_cases h3 : a < M.W.length
      · rw [if_pos ⟨h2, h3⟩]
        have t0 : decide (a < 0) = false := decide_eq_false (by omega)
        have t1 : decide ((M.W.length : Int) ≤ a) = false := decide_eq_false (by omega)
        go_enter Try.func90, Try.ntmps90
        go_wp2_with fail
        refine C1.out.mono ?_
        rintro r w1 ⟨rfl, rfl⟩
        go_wp2
        go_ret
        exact ⟨rfl, rfl⟩
      · rw [if_neg (fun h => h3 h.2)]
        have t0 : decide (a < 0) = false := decide_eq_false (by omega)
        have t1 : decide ((M.W.length : Int) ≤ a) = true := decide_eq_true (by omega)
        go_enter Try.func90, Try.ntmps90
        go_wp2_with fail
        refine C1.out.mono ?_
        rintro r w1 ⟨rfl, rfl⟩
        go_wp2
        go_ret
        exact ⟨rfl, rfl⟩
    · rw [if_neg (fun h => h2 h.1)]
      have t0 : decide (a < 0) = true := decide_eq_true (by omega)
      go_enter Try.func90, Try.ntmps90
      go_wp2_with fail
      refine C1.out.mono ?_
      rintro r w1 ⟨rfl, rfl⟩
      go_wp2
      go_ret
      exact ⟨rfl, rfl⟩
  · rw [decide_eq_false h1] at C1
    rw [if_neg h1]
    have C1 := Lib.hid C1
    clear h1
    go_enter Try.func90, Try.ntmps90
    go_wp2_with fail
    refine C1.out.mono ?_
    rintro r w1 ⟨rfl, rfl⟩
    go_wp2
    go_ret
    exact ⟨rfl, rfl⟩
set_option maxRecDepth 100000 in
set_option maxHeartbeats 1000000 in
theorem access_any (b p c : Nat) (v : Value) (M : Wm) (t k x : Int) (i : Nat) (s : Bool) (w : World) (h : At0 27 w b p c v M) (hi : i < M.W.length) (hL : M.L.length ≤ 50000) (x0 : 0 ≤ x) (x1 : x ≤ 18446744073709551615) :
    Calls Try.prog 91 #[.pointer (some ⟨b, 0, none⟩), .int .i64 t, .int .i64 (i : Nat), .int .u8 k, .int .u64 x, .bool s] w fun e w' => e = .returned (.tuple #[]) ∧ After 27 b p v.ownBlock (M.put t (i : Nat) k x s) w w' := by
  have c0 := h.c0
  have c1 := h.c1
  have f1 := h.f1
  have hlt := h.lt
  have hplt := h.plt
  obtain ⟨hW, hF⟩ := h.word hi
  have n1 := h.n1
  have c1' : (w.setCell ⟨p, i, none⟩ (.int .u64 x)).cell? ⟨b, 1, none⟩ = some v := (World.cell?_setCell_other _ _ _ _ (fun e => h.pb (congrArg Addr.block e))).trans c1
  have hv : ∀ q, v.ownBlock = some q → q < w.heap.size := fun q hq => (h.log.lt q hq).2
  obtain ⟨o, ho⟩ : ∃ o : Obj, o = .cells #[.int .i64 t, .int .i64 (i : Nat), .int .u8 k, .int .u64 (M.get (i : Nat)), .int .u64 x, .bool s] 135 := ⟨_, rfl⟩
  have hsz : (w.setCell ⟨p, i, none⟩ (.int .u64 x)).heap.size = w.heap.size := by simp
  have BB : Below w.heap.size (w.setCell ⟨p, i, none⟩ (.int .u64 x)) (((w.setCell ⟨p, i, none⟩ (.int .u64 x)).alloc o).alloc o).drew := by
    have := below_drewN (bel_alloc (bel_alloc (Below.refl (w.setCell ⟨p, i, none⟩ (.int .u64 x)).heap.size (w.setCell ⟨p, i, none⟩ (.int .u64 x))) o) o) 1
    rw [hsz] at this
    exact this
  have HW := (h.setW hi x0 x1).below (by rw [hsz]; exact BB)
  have NB : (((w.setCell ⟨p, i, none⟩ (.int .u64 x)).alloc o).alloc o).drew.heap[w.heap.size + 1]? = some o := by
    have := heap_alloc_new ((w.setCell ⟨p, i, none⟩ (.int .u64 x)).alloc o) o
    rw [World.size_alloc, hsz] at this; exact this
  rw [ho] at BB HW NB
  have HF : Fr (Of b p v.ownBlock) w (w.setCell ⟨p, i, none⟩ (.int .u64 x)) := (Fr.of_below (Below.refl _ w)).set _ _ (.inr (.inl rfl))
  have HB := Lib.hid BB
  have HR := Lib.hid HW
  have HN := Lib.hid NB
  have HV := Lib.hid hv
  have HFF := Lib.hid HF
  have HP := Lib.hid (show M.put t (i : Nat) k x s = ⟨M.W.set i x, M.L ++ [⟨t, (i : Nat), k, M.get (i : Nat), x, s⟩]⟩ by rw [Wm.put, Int.toNat_natCast])
  clear BB HW NB ho h hv HF
  rw [HP.out]
  go_enter Try.func91, Try.ntmps91
  go_wp2
  go_region_law ((refine stepA (by rfl) (.tmp 37) (.tmp 39) (by rfl) _ _ v M.L ⟨t, (i : Nat), k, M.get (i : Nat), x, s⟩ (by rfl) (by rfl) HN.out HR.out.log (by omega) ?_; intro g cap w1 own1 grow1 at1; have kb := grow1.block b HR.out.lt (fun e => HR.out.qb e.symm); have k1 := (World.cell?_of_block (a := ⟨b, 1, none⟩) kb).trans HR.out.c1; have k2 := (World.frozen?_of_block (a := ⟨b, 1, none⟩) kb).trans HR.out.f1))
  all_goals
    go_wp2
    go_end0
    exact ⟨rfl, (logged_end (by rw [hsz]; exact HB.out) HR.out (by rw [hsz]; exact HV.out) own1 grow1 at1).behind HFF.out⟩
/-! ### the calls -/
set_option maxRecDepth 100000 in
set_option maxHeartbeats 1000000 in
theorem storeR_any (b p : Nat) (q : Option Nat) (M : Wm) (t a x : Int) (w : World) (h : At 27 w b p q M) (hL : M.L.length ≤ 50000) (x0 : 0 ≤ x) (x1 : x ≤ 18446744073709551615) :
    Calls Try.prog 63 #[.pointer (some ⟨b, 0, none⟩), .int .i64 t, .int .i64 a, .int .u64 x] w (StP 27 b p q M t a x w) := by
  obtain ⟨c, v, rfl, h⟩ := h
  unfold StP
  by_cases he : M.err t a = 0
  · obtain ⟨t0, t1, a0, a1⟩ := Wm.err_zero he
    obtain ⟨i, rfl⟩ := Int.eq_ofNat_of_zero_le a0
    have hi : i < M.W.length := by omega
    have C := check_any b p c v M t i w h
    rw [he] at C
    replace C := Lib.hid C
    have c0 := h.c0
    have hW := (h.word hi).1
    have n1 := h.n1
    have hbd := Wm.get_bd h.bd (i : Nat)
    have CN := Lib.hid (access_any b p c v M t 2 x i false w h hi hL x0 x1)
    have HE := Lib.hid (show M.after (M.err t (i : Nat)) (M.stor t (i : Nat) x) = M.put t (i : Nat) 2 x false by rw [he, Wm.after_zero, Wm.stor])
    rw [HE.out, he]
    clear h he hbd
    go_enter Try.func63, Try.ntmps63
    go_wp2_with fail
    refine C.out.mono ?_
    rintro r w1 ⟨rfl, rfl⟩
    go_wp2_with fail
    refine CN.out.mono ?_
    rintro r w2 ⟨rfl, hA⟩
    have HA := Lib.hid hA
    clear hA
    go_wp2
    go_ret
    exact ⟨rfl, HA.out⟩
  · have C := check_any b p c v M t a w h
    have t0 : decide (M.err t a = 0) = false := decide_eq_false he
    have t1 : (M.err t a == 0) = false := beq_eq_false_iff_ne.2 he
    have t2 : (M.err t a != 0) = true := by simp [bne, t1]
    have HE := Lib.hid (show M.after (M.err t a) (M.stor t a x) = M from Wm.after_ne he)
    rw [HE.out]
    have HA := Lib.hid (After.same (ty := 27) ⟨c, v, rfl, h⟩ (Below.refl _ w))
    clear h he HE
    generalize M.err t a = y at *
    replace C := Lib.hid C
    go_enter Try.func63, Try.ntmps63
    go_wp2_with fail
    refine C.out.mono ?_
    rintro r w1 ⟨rfl, rfl⟩
    go_wp2
    go_ret
    exact ⟨rfl, HA.out⟩
end Wd
end Go.Proofs.Ytjcbjbhlclajnaa
