/- A merge of package merge in memory (a set, its missing lists, a heap of candidates); lacking and End: contracts of the translated code. Conditions: the bounds of each number's kind. -/
import Derived.Test.YtbndgbjenmknmaaDoorQhF
import Derived.Test.YtbndgbjenmknmaaDoorQhO
import Derived.Test.YtbndgbjenmknmaaDoorDm7
import Derived.Test.YtbndgbjenmknmaaDoorMgL
namespace Go.Proofs.YtbndgbjenmknmaaDoor
open Go.RowKit Go.Sort
set_option linter.unusedVariables false
set_option linter.unusedSimpArgs false
namespace Hq
open Om (bel_alloc below_drewN)
open Dm (or_nat and_nat wrap_pow p64 in_val stT stN stB RdK set_any)
open Mg (err_cases)
/-- the candidates are those of M -/
structure Cor (a : Nat → Cd) (n : Nat) (M : Mg.Mg) : Prop where
  has : ∀ k, k < n → (a k).l < 64 ∧ M.hs (a k).l = true ∧ M.p (a k).l = ((a k).k, (a k).v)
  all : ∀ v, v < 64 → M.hs v = true → ∃ k, k < n ∧ (a k).l = v
  once : Hp.Once lst a n
/-- at the block b lies the merge M of package merge; its candidates are the slice v -/
structure McAt (w : World) (b n : Nat) (v : Value) (a : Nat → Cd) (S X : Nat) (M : Mg.Mg) : Prop where
  c0 : w.cell? ⟨b, 0, none⟩ = some (.int .u64 (S : Nat))
  c1 : w.cell? ⟨b, 1, none⟩ = some (.int .u64 (X : Nat))
  c3 : w.cell? ⟨b, 3, none⟩ = some (.int .u64 M.fl)
  c4 : w.cell? ⟨b, 4, none⟩ = some (.bool M.fu)
  f1 : w.frozen? ⟨b, 1, none⟩ = false
  f3 : w.frozen? ⟨b, 3, none⟩ = false
  f4 : w.frozen? ⟨b, 4, none⟩ = false
  q : Q0 w b n v a
  ok : Hp.Ok key a n
  cor : Cor a n M
  s64 : S < 18446744073709551616
  x64 : X < 18446744073709551616
  ls : ∀ v, v < 64 → S.testBit v = M.ls v
  lk : ∀ v, v < 64 → X.testBit v = M.lacks v
theorem McAt.lt {w : World} {b n : Nat} {v : Value} {a : Nat → Cd} {S X : Nat} {M : Mg.Mg} (h : McAt w b n v a S X M) : b < w.heap.size := World.block_lt_of_cell? w ⟨b, 0, none⟩ h.c0
theorem McAt.keep {w w' : World} {b n : Nat} {v : Value} {a : Nat → Cd} {S X : Nat} {M : Mg.Mg} (h : McAt w b n v a S X M) (h1 : w'.heap[b]? = w.heap[b]?) (h2 : ∀ q, v.ownBlock = some q → w'.heap[q]? = w.heap[q]?) : McAt w' b n v a S X M :=
  ⟨(World.cell?_of_block (a := ⟨b, 0, none⟩) h1).trans h.c0, (World.cell?_of_block (a := ⟨b, 1, none⟩) h1).trans h.c1, (World.cell?_of_block (a := ⟨b, 3, none⟩) h1).trans h.c3, (World.cell?_of_block (a := ⟨b, 4, none⟩) h1).trans h.c4,
   (World.frozen?_of_block (a := ⟨b, 1, none⟩) h1).trans h.f1, (World.frozen?_of_block (a := ⟨b, 3, none⟩) h1).trans h.f3, (World.frozen?_of_block (a := ⟨b, 4, none⟩) h1).trans h.f4, h.q.keep h1 h2, h.ok, h.cor, h.s64, h.x64, h.ls, h.lk⟩
theorem McAt.below {w w' : World} {b n : Nat} {v : Value} {a : Nat → Cd} {S X : Nat} {M : Mg.Mg} (h : McAt w b n v a S X M) (hb : Below w.heap.size w w') : McAt w' b n v a S X M :=
  h.keep (hb.block b h.lt) fun q hq => hb.block q (h.q.row.lt q hq).2
/-- a merge at the block b whose candidates lie in the block Q -/
def MAt (w : World) (b : Nat) (Q : Option Nat) (M : Mg.Mg) : Prop := ∃ n v a S X, v.ownBlock = Q ∧ McAt w b n v a S X M
theorem MAt.below {w w' : World} {b : Nat} {Q : Option Nat} {M : Mg.Mg} (h : MAt w b Q M) (hb : Below w.heap.size w w') : MAt w' b Q M := by
  obtain ⟨n, v, a, S, X, h1, h2⟩ := h
  exact ⟨n, v, a, S, X, h1, h2.below hb⟩
theorem MAt.keep {w w' : World} {b : Nat} {Q : Option Nat} {M : Mg.Mg} (h : MAt w b Q M) (h1 : w'.heap[b]? = w.heap[b]?) (h2 : ∀ q, Q = some q → w'.heap[q]? = w.heap[q]?) : MAt w' b Q M := by
  obtain ⟨n, v, a, S, X, rfl, h4⟩ := h
  exact ⟨n, v, a, S, X, rfl, h4.keep h1 h2⟩
/-- the blocks of a merge -/
def Of (b : Nat) (Q : Option Nat) : Nat → Prop := fun k => k = b ∨ Q = some k
/-- what a call of a merge leaves: a merge, its blocks old or new, nothing else changed -/
def After (b : Nat) (Q : Option Nat) (M : Mg.Mg) (w w' : World) : Prop := ∃ Q', MAt w' b Q' M ∧ (∀ q, Q' = some q → Q = some q ∨ w.heap.size ≤ q) ∧ Fr (Of b Q) w w'
/-- the cell of the missing lists is written -/
theorem McAt.miss {w : World} {b n : Nat} {v : Value} {a : Nat → Cd} {S X Y : Nat} {M N : Mg.Mg} (h : McAt w b n v a S X M) (hY : Y < 18446744073709551616) (hls : ∀ v, v < 64 → N.ls v = M.ls v) (hlk : ∀ v, v < 64 → Y.testBit v = N.lacks v) (hc : Cor a n N) (hf : N.fl = M.fl) (hu : N.fu = M.fu) :
    McAt (w.setCell ⟨b, 1, none⟩ (.int .u64 (Y : Nat))) b n v a S Y N := by
  have ne : ∀ {o : Nat}, o ≠ 1 → (w.setCell ⟨b, 1, none⟩ (.int .u64 (Y : Nat))).cell? ⟨b, o, none⟩ = w.cell? ⟨b, o, none⟩ := fun ho => World.cell?_setCell_other _ _ _ _ (fun e => ho (by cases e; rfl))
  refine ⟨(ne (by omega)).trans h.c0, World.cell?_setCell_same _ _ _ h.c1, ((ne (by omega)).trans h.c3).trans (by rw [hf]), ((ne (by omega)).trans h.c4).trans (by rw [hu]), by rw [World.frozen?_setCell]; exact h.f1, by rw [World.frozen?_setCell]; exact h.f3, by rw [World.frozen?_setCell]; exact h.f4, ?_, h.ok, hc, h.s64, hY, fun u hu => (h.ls u hu).trans (hls u hu).symm, hlk⟩
  rcases h.q.form with ⟨rfl, rfl⟩ | ⟨q, c, rfl, hq⟩
  · exact ⟨(ne (by omega)).trans h.q.hd, by rw [World.frozen?_setCell]; exact h.q.fz, World.ownsRow_nil _ _ _ _, h.q.ne, h.q.n64⟩
  · exact ⟨(ne (by omega)).trans h.q.hd, by rw [World.frozen?_setCell]; exact h.q.fz, shp_own (hq.shp.set _ _) (hq.cs.keep (Below.heap_setCell w ⟨b, 1, none⟩ _ q hq.ne)) hq.nc, h.q.ne, h.q.n64⟩
theorem stT_in {p : Nat} (hp : p < 64) : stT [(p : Int)] = .tuple #[.int .u64 ((2 ^ p : Nat) : Int), .int .i64 0] := by
  have h : stB [(p : Int)] 1 = true := by simp [stB]; omega
  unfold stT
  rw [if_pos (by simpa using h)]
  simp [stN]
theorem stT_out {l : Int} (hl : ¬ (0 ≤ l ∧ l < 64)) : stT [l] = .tuple #[.int .u64 0, .int .i64 3] := by
  unfold stT
  rw [if_neg]
  simp [stB]; omega
/-- without the list p -/
def clr (X p : Nat) : Nat := X &&& (18446744073709551615 - 2 ^ p)
theorem clr_lt {X p : Nat} (hX : X < 18446744073709551616) : clr X p < 18446744073709551616 := Nat.lt_of_le_of_lt Nat.and_le_left hX
theorem clr_bit {X p u : Nat} (hp : p < 64) (hu : u < 64) : (clr X p).testBit u = (X.testBit u && !decide (u = p)) := by
  have hp2 := p64 hp
  unfold clr
  rw [show 18446744073709551615 - 2 ^ p = 2 ^ 64 - (2 ^ p + 1) by omega, Nat.testBit_and, Nat.testBit_two_pow_sub_succ (by omega), Nat.testBit_two_pow, decide_eq_true hu, Bool.true_and]
  congr 2
  exact decide_eq_decide.2 ⟨fun h => h.symm, fun h => h.symm⟩
theorem clr_val {X p : Nat} (hX : X < 18446744073709551616) (hp : p < 64) : bits .andNot .u64 (X : Int) ((2 ^ p : Nat) : Int) = ((clr X p : Nat) : Int) := u64_andNot_nat X (2 ^ p) hX (p64 hp)
theorem done_lacks {M : Mg.Mg} {p u : Nat} : (M.done p).lacks u = (M.lacks u && !decide (u = p)) := by
  unfold Mg.Mg.lacks Mg.Mg.done
  by_cases e : u = p <;> simp [e]
theorem Cor.done {a : Nat → Cd} {n : Nat} {M : Mg.Mg} (h : Cor a n M) (p : Nat) : Cor a n (M.done p) := ⟨h.has, h.all, h.once⟩
def lkT (M : Mg.Mg) (l : Int) : Value := .tuple #[.int .u64 (if M.err l = 0 then ((2 ^ l.toNat : Nat) : Int) else 0), .int .i64 (M.err l)]
set_option maxRecDepth 100000 in
set_option maxHeartbeats 2000000 in
theorem lacking_any (b n : Nat) (v : Value) (a : Nat → Cd) (S X : Nat) (M : Mg.Mg) (l : Int) (w : World) (h : McAt w b n v a S X M) (l0 : (-9223372036854775808) ≤ l) (l1 : l ≤ 9223372036854775807) :
    Calls Tryd.prog 35 #[.pointer (some ⟨b, 0, none⟩), .int .i64 l] w fun e w' => e = .returned (lkT M l) ∧ Below w.heap.size w w' := by
  have B0 : Below w.heap.size w (w.alloc (.cells #[.int .i64 l] 3)) := bel_alloc (Below.refl _ _) _
  have C := set_any (some ⟨w.heap.size, 0, none⟩) 1 1 [l] (w.alloc (.cells #[.int .i64 l] 3)) rfl (by unfold maxLen; omega) (fun k hk => ⟨w.heap.size, 0, rfl, by
    have : k = 0 := by simpa using hk
    subst this; simp⟩) (fun k hk => by
    have : k = 0 := by simpa using hk
    subst this; exact ⟨l0, l1⟩)
  have c0 := (B0.cell (p := ⟨b, 0, none⟩) h.lt).trans h.c0
  have c1 := (B0.cell (p := ⟨b, 1, none⟩) h.lt).trans h.c1
  by_cases hin : 0 ≤ l ∧ l < 64
  · obtain ⟨p, rfl⟩ := Int.eq_ofNat_of_zero_le hin.1
    have hp : p < 64 := by omega
    rw [stT_in hp] at C
    have C := Lib.hid C
    have v0 := in_val h.s64 hp
    have v1 := in_val h.x64 hp
    rw [h.ls p hp] at v0
    rw [h.lk p hp] at v1
    have hT : lkT M p = .tuple #[.int .u64 (if M.err p = 0 then ((2 ^ p : Nat) : Int) else 0), .int .i64 (M.err p)] := rfl
    rcases err_cases M p with ⟨h', e⟩ | ⟨_, h', e⟩ | ⟨u, hv, hu, h1, e⟩ | ⟨u, hv, hu, h1, h2, e⟩ | ⟨u, hv, hu, h1, h2, h3, e⟩ | ⟨u, hv, hu, h1, h2, h3, e⟩
    · omega
    · omega
    all_goals
      obtain rfl : p = u := by omega
      rw [e] at hT
    · rw [h1] at v0
      have t0 : (bits .and .u64 (S : Int) ((2 ^ p : Nat) : Int) == 0) = true := by have := v0; simp only [bne, Bool.not_eq_false'] at this; exact this
      rw [if_neg (by omega)] at hT
      have HT := Lib.hid hT
      clear v0 v1 hT hin
      generalize (2 ^ p : Nat) = z at *
      go_enter Tryd.func35, Tryd.ntmps35
      go_wp2_with fail
      refine C.out.mono ?_
      rintro r w1 ⟨rfl, rfl⟩
      go_wp2
      go_ret2
      exact ⟨congrArg Ending.returned HT.out.symm, B0⟩
    · rw [h1] at v0
      have hlk : M.lacks p = false := by unfold Mg.Mg.lacks; rw [h2]; simp
      rw [hlk] at v1
      have t0 : (bits .and .u64 (S : Int) ((2 ^ p : Nat) : Int) == 0) = false := by have := v0; simp only [bne, Bool.not_eq_true'] at this; exact this
      have t1 : (bits .and .u64 (X : Int) ((2 ^ p : Nat) : Int) == 0) = true := by have := v1; simp only [bne, Bool.not_eq_false'] at this; exact this
      rw [if_neg (by omega)] at hT
      have HT := Lib.hid hT
      clear v0 v1 hT hin hlk
      generalize (2 ^ p : Nat) = z at *
      go_enter Tryd.func35, Tryd.ntmps35
      go_wp2_with fail
      refine C.out.mono ?_
      rintro r w1 ⟨rfl, rfl⟩
      go_wp2
      go_ret2
      exact ⟨congrArg Ending.returned HT.out.symm, B0⟩
    · rw [h1] at v0
      have hlk : M.lacks p = false := by unfold Mg.Mg.lacks; rw [h3]; simp
      rw [hlk] at v1
      have t0 : (bits .and .u64 (S : Int) ((2 ^ p : Nat) : Int) == 0) = false := by have := v0; simp only [bne, Bool.not_eq_true'] at this; exact this
      have t1 : (bits .and .u64 (X : Int) ((2 ^ p : Nat) : Int) == 0) = true := by have := v1; simp only [bne, Bool.not_eq_false'] at this; exact this
      rw [if_neg (by omega)] at hT
      have HT := Lib.hid hT
      clear v0 v1 hT hin hlk
      generalize (2 ^ p : Nat) = z at *
      go_enter Tryd.func35, Tryd.ntmps35
      go_wp2_with fail
      refine C.out.mono ?_
      rintro r w1 ⟨rfl, rfl⟩
      go_wp2
      go_ret2
      exact ⟨congrArg Ending.returned HT.out.symm, B0⟩
    · rw [h1] at v0
      have hlk : M.lacks p = true := by unfold Mg.Mg.lacks; rw [h1, h2, h3]; rfl
      rw [hlk] at v1
      have t0 : (bits .and .u64 (S : Int) ((2 ^ p : Nat) : Int) == 0) = false := by have := v0; simp only [bne, Bool.not_eq_true'] at this; exact this
      have t1 : (bits .and .u64 (X : Int) ((2 ^ p : Nat) : Int) == 0) = false := by have := v1; simp only [bne, Bool.not_eq_true'] at this; exact this
      rw [if_pos rfl] at hT
      have HT := Lib.hid hT
      clear v0 v1 hT hin hlk
      generalize (2 ^ p : Nat) = z at *
      go_enter Tryd.func35, Tryd.ntmps35
      go_wp2_with fail
      refine C.out.mono ?_
      rintro r w1 ⟨rfl, rfl⟩
      go_wp2
      go_ret2
      exact ⟨congrArg Ending.returned HT.out.symm, B0⟩
  · rw [stT_out hin] at C
    have C := Lib.hid C
    have he : M.err l = 3 := by
      rcases err_cases M l with ⟨h', e⟩ | ⟨_, h', e⟩ | ⟨u, hv, hu, _⟩ | ⟨u, hv, hu, _⟩ | ⟨u, hv, hu, _⟩ | ⟨u, hv, hu, _⟩
      · exact e
      · exact e
      all_goals (exfalso; omega)
    have HT := Lib.hid (show lkT M l = .tuple #[.int .u64 0, .int .i64 3] by unfold lkT; rw [he]; rfl)
    clear hin he
    go_enter Tryd.func35, Tryd.ntmps35
    go_wp2_with fail
    refine C.out.mono ?_
    rintro r w1 ⟨rfl, rfl⟩
    go_wp2
    go_ret2
    exact ⟨congrArg Ending.returned HT.out.symm, B0⟩
theorem lacking_nil (l : Int) (w : World) :
    Calls Tryd.prog 35 #[.pointer none, .int .i64 l] w fun e w' => e = .returned (.tuple #[.int .u64 0, .int .i64 1]) ∧ w = w' := by
  go_enter Tryd.func35, Tryd.ntmps35
  go_wp2
  go_ret2
  exact ⟨rfl, rfl⟩
theorem end_nil (l : Int) (w : World) :
    Calls Tryd.prog 20 #[.pointer none, .int .i64 l] w fun e w' => e = .returned (.int .i64 1) ∧ w = w' := by
  have C := Lib.hid (lacking_nil l w)
  go_enter Tryd.func20, Tryd.ntmps20
  go_wp2_with fail
  refine C.out.mono ?_
  rintro r w1 ⟨rfl, rfl⟩
  go_wp2
  go_ret
  exact ⟨rfl, rfl⟩
set_option maxRecDepth 100000 in
set_option maxHeartbeats 2000000 in
theorem end_any (b : Nat) (Q : Option Nat) (M : Mg.Mg) (l : Int) (w : World) (h : MAt w b Q M) (l0 : (-9223372036854775808) ≤ l) (l1 : l ≤ 9223372036854775807) :
    Calls Tryd.prog 20 #[.pointer (some ⟨b, 0, none⟩), .int .i64 l] w fun e w' => e = .returned (.int .i64 (M.err l)) ∧ After b Q (M.after (M.err l) (M.done l.toNat)) w w' := by
  obtain ⟨n, v, a, S, X, rfl, h⟩ := h
  have C := lacking_any b n v a S X M l w h l0 l1
  unfold lkT at C
  by_cases he : M.err l = 0
  · obtain ⟨p, hp, rfl, h1, h2, h3⟩ := Mg.err_zero he
    rw [he] at C
    simp only [if_true, Int.toNat_natCast] at C
    have C := Lib.hid C
    have HE := Lib.hid he
    have HH := Lib.hid h
    have hbl := h.lt
    clear h he
    have HV := Lib.hid (clr_val HH.out.x64 hp)
    generalize hz : (2 ^ p : Nat) = z at *
    go_enter Tryd.func20, Tryd.ntmps20
    go_wp2_with fail
    refine C.out.mono ?_
    rintro r w1 ⟨rfl, b1⟩
    have h := HH.out.below b1
    have c1 := h.c1
    have f1 := h.f1
    go_wp2
    go_ret
    rw [HE.out, HV.out]
    refine ⟨rfl, v.ownBlock, ⟨n, v, a, S, clr X p, rfl, ?_⟩, fun q hq => .inl hq, (Fr.of_below b1).set _ _ (.inl (.inl rfl))⟩
    exact h.miss (clr_lt h.x64) (fun _ _ => rfl) (fun u hu => by rw [clr_bit hp hu, h.lk u hu]; exact done_lacks.symm) (h.cor.done p) rfl rfl
  · have t0 : decide (M.err l = 0) = false := decide_eq_false he
    have t1 : (M.err l == 0) = false := beq_eq_false_iff_ne.2 he
    have t2 : (M.err l != 0) = true := by simp [bne, t1]
    rw [if_neg he] at C
    have HE := Lib.hid (show M.after (M.err l) (M.done l.toNat) = M from if_neg he)
    have HH := Lib.hid h
    clear h he
    generalize M.err l = x at *
    have C := Lib.hid C
    go_enter Tryd.func20, Tryd.ntmps20
    go_wp2_with fail
    refine C.out.mono ?_
    rintro r w1 ⟨rfl, b1⟩
    go_wp2
    go_ret
    exact ⟨rfl, v.ownBlock, by rw [HE.out]; exact ⟨n, v, a, S, X, rfl, HH.out.below b1⟩, fun q hq => .inl hq, Fr.of_below b1⟩
end Hq
end Go.Proofs.YtbndgbjenmknmaaDoor
