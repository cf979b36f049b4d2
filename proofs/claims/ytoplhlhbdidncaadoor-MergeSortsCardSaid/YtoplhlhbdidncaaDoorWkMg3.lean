/- MergeSorts: the walk. Conditions: those of the frame, and Tz. -/
import Derived.Test.YtoplhlhbdidncaaDoorMsL
namespace Go.Proofs.YtoplhlhbdidncaaDoor
open Go.RowKit Go.Sort
set_option linter.unusedVariables false
set_option linter.unusedSimpArgs false
set_option linter.unnecessarySimpa false
namespace Wk
open Hq
open Om (bel_alloc Pr bel_trans flat below_drewN)
open Mg (popT Pt Gp sub RdP)
open Dm (flatI RdK cell_lt)
theorem gp_drop {S : Nat} {all : List Pt} (h : Gp S all) (k : Nat) : Gp S (all.drop k) := ⟨List.Pairwise.sublist (List.drop_sublist k all) h.asc, fun y hy => h.mem y (List.mem_of_mem_drop hy)⟩
theorem drop_at {all : List Pt} {k : Nat} {y : Pt} (h : all[k]? = some y) : all.drop k = y :: all.drop (k + 1) := by
  have hk := (List.getElem?_eq_some_iff.1 h).1
  rw [List.drop_eq_getElem_cons hk]
  congr 1
  rw [List.getElem?_eq_getElem hk] at h
  exact Option.some.inj h
/-- the blocks that stay: those of the caller, and those of the sequences -/
def Xs (B K E : Nat) : Nat → Prop := fun i => i < B ∨ (K ≤ i ∧ i < E)
/-- the sequences are laid into a box -/
theorem box_ar {S n : Nat} {w1 w2 : World} {cs : List Value} {AL : Option Addr} {cL : Nat} {all : List Pt} (h : LiP S n w1 w2 cs AL cL all) (B : Nat) (o : Obj) (ho : ∀ v, v < 64 → ((w2.alloc o).cell? ⟨w2.heap.size, v, none⟩).isSome = true ∧ (w2.alloc o).frozen? ⟨w2.heap.size, v, none⟩ = false) :
    Ar (Xs B w1.heap.size (w2.heap.size + 1)) ((w2.alloc o).setCells w2.heap.size 0 cs) w2.heap.size (fun v => sub v all) ∧ Below w2.heap.size w2 ((w2.alloc o).setCells w2.heap.size 0 cs) ∧ ((w2.alloc o).setCells w2.heap.size 0 cs).heap.size = w2.heap.size + 1 := by
  have sb := fun i (hi : i ≠ w2.heap.size) => Mg.set_block w2.heap.size i hi cs 0 (w2.alloc o)
  have hsz := (sb (w2.heap.size + 1) (by omega)).2.1
  have hal : (w2.alloc o).heap.size = w2.heap.size + 1 := by simp
  have bal := bel_alloc (Below.refl w2.heap.size w2) o
  have RG := World.rangeAt_setCells_same (w2.alloc o) w2.heap.size 0 cs (fun i hi => by rw [h.n] at hi; rw [Nat.zero_add]; exact ho i hi)
  refine ⟨⟨fun v hv => ?_, fun v hv => by rw [World.frozen?_setCells]; exact (ho v hv).2⟩, ?_, by rw [hsz, hal]⟩
  · obtain ⟨A, c, e, hc, hr, ha⟩ := h.c v hv
    refine ⟨A, c, by have := RG v _ e; rwa [Nat.zero_add] at this, hc, rd_keep hr fun a ea => ?_, fun a ea => ?_⟩
    · have h1 := ha a ea
      exact (sb a.block (by omega)).1.trans (bal.block a.block h1.2)
    · have h1 := ha a ea
      exact ⟨.inr ⟨h1.1, by omega⟩, by omega⟩
  · have h0 := sb (w2.heap.size + 1) (by omega)
    exact ⟨h0.2.2.1.trans bal.os, h0.2.2.2.1.trans bal.tape, h0.2.2.2.2.trans bal.output, by rw [hsz, hal]; omega, fun i hi => (sb i (by omega)).1.trans (bal.block i hi)⟩
theorem rdp_keep {w w' : World} {A : Option Addr} {l : List Pt} (h : RdP w A l) (hb : ∀ a, A = some a → w'.heap[a.block]? = w.heap[a.block]?) : RdP w' A l := fun i y hi => by
  obtain ⟨b, o, e, p3⟩ := h i y hi
  exact ⟨b, o, e, p3.keep (hb _ e)⟩
theorem kp_below {X : Nat → Prop} {pb B : Nat} {w w' : World} (h : Kp X pb w w') (hX : ∀ i, i < B → X i) (hB : B ≤ pb) : Below B w w' := ⟨h.os, h.tape, h.output, h.size, fun i hi => h.block i (hX i hi) (by omega)⟩
set_option maxRecDepth 100000 in
set_option maxHeartbeats 8000000 in
theorem walk_mergeSorts (a0 : Int) (a1 : Option Addr) (a1n a1c : Nat) (a1v : List Mg.Pt) (w : World) (a0l : 0 ≤ a0) (a0h : a0 ≤ 18446744073709551615) (a1e : a1v.length = a1n) (a1m : a1n ≤ maxLen) (a1r : Mg.RdP w a1 a1v) (a1b : Mg.BdP a1v) (a1z : a1 = none → a1c = 0) (hT : Dm.Tz w) :
    Calls Tryd.prog 5 #[.int .u64 a0, .slice a1 a1n a1c] w fun e w' => e = .returned (.bool true) ∧ Below w.heap.size w w' := by
  unfold maxLen at a1m
  obtain ⟨S, rfl⟩ : ∃ S : Nat, a0 = S := ⟨a0.toNat, by omega⟩
  have hS : S < 18446744073709551616 := by omega
  have HR := Lib.hid a1r; have HE := Lib.hid a1e; have HB := Lib.hid a1b
  have hw0 : 0 < w.heap.size := cell_lt (hT 0 (by decide))
  have T0 := Lib.hid hT
  clear a1r a1e a1b hT a1z
  by_cases hn : 80 < a1n
  · have t0 : decide (80 < (a1n : Int)) = true := decide_eq_true (by omega)
    have K := Lib.hid (known_any w T0.out)
    go_enter Tryd.func5, Tryd.ntmps5
    go_wp2_with fail
    refine K.out.mono ?_
    rintro r w1 ⟨rfl, bb⟩
    go_wp2_with fail
    go_ret
    exact ⟨rfl, bb⟩
  have t0 : decide (80 < (a1n : Int)) = false := decide_eq_false (by omega)
  have hz := zp_run
  obtain ⟨zs, hzs⟩ : ∃ zs : Array Value, zs = (List.replicate 64 (Value.slice none 0 0)).toArray := ⟨_, rfl⟩
  have hne : ¬ zs = #[] := fun e => by rw [e] at hzs; have := congrArg Array.size hzs; revert this; decide
  have hsz : zs.size = 64 := by rw [hzs]; decide
  have zc : ∀ v, v < 64 → zs[v]? = some (.slice none 0 0) := fun v hv => by rw [hzs]; exact zs_get hv
  rw [← hzs] at hz
  have ZC := Lib.hid zc
  clear hzs zc
  go_enter Tryd.func5, Tryd.ntmps5
  go_wp2_with fail
  refine (newS (fun i => i < w.heap.size) S w hS (fun i h => h)).mono ?_
  rintro r w1 ⟨rfl, sm, bb⟩
  have SM := Lib.hid sm
  have B1 := Lib.hid bb
  clear sm bb
  go_wp2_with fail
  refine (lists_any S hS a1 a1n a1c a1v w1 HE.out (by omega) (Mg.RdP.below HR.out B1.out) HB.out).mono ?_
  rintro r w2 ⟨cs, AL, cL, all, rfl, li⟩
  have LI := Lib.hid li
  have lcs := li.n
  have hle := li.le
  have hal : (w2.alloc (.cells zs 49)).heap.size = w2.heap.size + 1 := by simp
  have hcell : ∀ v, v < 64 → ((w2.alloc (.cells zs 49)).cell? ⟨w2.heap.size, v, none⟩).isSome = true ∧ (w2.alloc (.cells zs 49)).frozen? ⟨w2.heap.size, v, none⟩ = false := fun v hv => by
    refine ⟨?_, by simp⟩
    rw [World.cell?_alloc_new, ZC.out v hv]; rfl
  obtain ⟨ar, b3, s3⟩ := box_ar li w.heap.size (.cells zs 49) hcell
  have one : ∀ u ∈ cs, u.oneCell' = true := fun u hu => by
    obtain ⟨i, hi⟩ := List.getElem?_of_mem hu
    have h64 : i < 64 := by have := (List.getElem?_eq_some_iff.1 hi).1; omega
    obtain ⟨A, c, e, _⟩ := li.c i h64
    rw [e] at hi; injection hi with hi; rw [← hi]; rfl
  have sc : (storeCells ⟨w2.heap.size, 0, none⟩ cs).run Tryd.prog (w2.alloc (.cells zs 49)) = .ok () ((w2.alloc (.cells zs 49)).setCells w2.heap.size 0 cs) := by
    have := run_storeCells_cells (P := Tryd.prog) w2.heap.size 0 cs 0 (w2.alloc (.cells zs 49)) (fun j hj => by have := (hcell j (by omega)).1; simpa using this) (fun j hj => by have := (hcell j (by omega)).2; simpa using this) one
    simpa only [Nat.add_zero] using this
  have cne : ¬ cs.toArray = #[] := fun e => by have := congrArg Array.size e; simp at this; rw [this] at lcs; simp at lcs
  have csz : cs.toArray.size = 64 := by rw [List.size_toArray, lcs]
  have AR := Lib.hid ar
  have B3 := Lib.hid b3
  have S3 := Lib.hid s3
  clear li ar b3 s3 hcell one hal
  go_wp2_with fail
  have BB3 := B1.out.trans ((LI.out.b.trans (B3.out.mono LI.out.b.size)).mono B1.out.size)
  have B13 := LI.out.b.trans (B3.out.mono LI.out.b.size)
  have hb1 := B1.out.size
  have hb2 := LI.out.b.size
  have X0 : Xs w.heap.size w1.heap.size (w2.heap.size + 1) 0 := .inl hw0
  have XP : Xs w.heap.size w1.heap.size (w2.heap.size + 1) w2.heap.size := .inr ⟨hb2, by omega⟩
  have SM3 := Lib.hid (show Sm (Xs w.heap.size w1.heap.size (w2.heap.size + 1)) ((w2.alloc (.cells zs 49)).setCells w2.heap.size 0 cs) w.heap.size (Mg.Mg.new fun v => S.testBit v) from SM.out.more B13 fun i hi => by
    rcases hi with h | h
    · exact .inl h
    · exact .inr ⟨h.1, by rw [S3.out]; exact h.2⟩)
  have RD3 := Lib.hid (rdp_keep LI.out.rd fun a e => B3.out.block a.block (LI.out.al a e).2)
  have ALX := Lib.hid (show ∀ a, AL = some a → Xs w.heap.size w1.heap.size (w2.heap.size + 1) a.block ∧ a.block ≠ w2.heap.size from fun a e => by
    have h := LI.out.al a e
    exact ⟨.inr ⟨h.1, by omega⟩, by omega⟩)
  have TZ3 := Lib.hid (T0.out.belowN hw0 BB3)
  have BB := Lib.hid BB3
  have HG := Lib.hid LI.out.g
  clear BB3 B13 sc LI SM B1 B3
  generalize (w2.alloc (.cells zs 49)).setCells w2.heap.size 0 cs = W3 at *
  generalize hpb : w2.heap.size = pb at *
  generalize hX : Xs w.heap.size w1.heap.size (pb + 1) = X at *
  have HXB := Lib.hid (show ∀ i, i < w.heap.size → X i from fun i hi => by rw [← hX]; exact .inl hi)
  have hp0 : 0 ≠ pb := by omega
  have hpw : w.heap.size ≤ pb := by omega
  clear hX
  go_loopw [8] (fun s wr => ∃ (k : Nat) (M : Mg.Mg) (R : Nat → List Pr), s = .int .i64 k ∧ k ≤ all.length ∧ Sm X wr w.heap.size M ∧ Mg.Fd S M (all.drop k) R ∧ Ar X wr pb R ∧ Kp X pb W3 wr) (fun s _ => (all.length - intOf s).toNat)
  case atStart => exact ⟨0, _, _, rfl, Nat.zero_le _, SM3.out, Mg.Fd.start HG.out, AR.out, Kp.refl _ _ _⟩
  case round =>
    clear SM3 AR
    obtain ⟨k, M, R, rfl, hk, sm, fd, ar, kp⟩ := hrel
    have SM := Lib.hid sm
    have FD := Lib.hid fd
    have AR := Lib.hid ar
    have KP := Lib.hid kp
    have TZ := Lib.hid (kp.tz X0 hp0 TZ3.out)
    clear sm fd ar kp
    have fe := feed_any X w.heap.size pb S M (all.drop k) R wr SM.out X0 XP hp0 AR.out FD.out (gp_drop HG.out k) TZ.out
    by_cases hlt : k < all.length
    · obtain ⟨y, hy⟩ : ∃ y, all[k]? = some y := ⟨_, List.getElem?_eq_getElem hlt⟩
      have hd := drop_at hy
      have py := HG.out.mem y (List.mem_of_getElem? hy)
      have hgp := gp_drop HG.out k
      rw [hd] at fe hgp
      have FE := Lib.hid fe
      have GP := Lib.hid hgp
      obtain ⟨ab, ao, eA, q0, q1, q2⟩ := (rdp_keep RD3.out fun a e => KP.out.block a.block (ALX.out a e).1 (ALX.out a e).2) k y hy
      have hab := ALX.out _ eA
      have hXa : X ab := hab.1
      have hab2 : ab ≠ pb := hab.2
      subst eA
      obtain ⟨yl, yk, yv⟩ := y
      obtain ⟨v, rfl⟩ : ∃ v : Nat, yl = v := ⟨yl.toNat, by have h : 0 ≤ yl := py.l0; omega⟩
      have t1 : decide ((k : Int) < (all.length : Int)) = true := decide_eq_true (by omega)
      have k0 : (k : Int) < (all.length : Int) := by omega
      have hal : all.length ≤ 80 := by omega
      have q0 : wr.cell? ⟨ab, ao + k * 3, none⟩ = some (.int .i64 (v : Int)) := q0
      have q1 : wr.cell? ⟨ab, ao + k * 3 + 1, none⟩ = some (.int .u64 yk) := q1
      have q2 : wr.cell? ⟨ab, ao + k * 3 + 2, none⟩ = some (.int .u64 yv) := q2
      clear fe hgp hy hd hab py
      go_wp2_with fail
      refine FE.out.mono ?_
      rintro r w4 ⟨rfl, N, R', sm, hm, fd, ar, kp⟩
      have hh := fd.head GP.out hm sm.inv
      obtain ⟨tl, hlist⟩ := fd.least GP.out hm sm.inv
      have FD5 := Lib.hid (fd.pop GP.out hm sm.inv)
      simp only [Int.toNat_natCast] at hh FD5
      have SM4 := Lib.hid sm
      have AR4 := Lib.hid ar
      have KP4 := Lib.hid kp
      have HM := Lib.hid hm
      have HH := Lib.hid hh
      have r0 := (World.cell?_of_block (a := ⟨ab, ao + k * 3, none⟩) (kp.block ab hXa hab2)).trans q0
      have r1 := (World.cell?_of_block (a := ⟨ab, ao + k * 3 + 1, none⟩) (kp.block ab hXa hab2)).trans q1
      have r2 := (World.cell?_of_block (a := ⟨ab, ao + k * 3 + 2, none⟩) (kp.block ab hXa hab2)).trans q2
      clear sm hm fd ar kp hh q0 q1 q2 FD AR SM FE
      go_wp2_with fail
      refine (listS SM4.out).mono ?_
      rintro r w5 ⟨⟨A5, c5, rfl, rd5, ho5⟩, hb5⟩
      rw [hlist] at rd5 ho5 ⊢
      obtain ⟨g5, cap5, e5⟩ := Joins.ownsRow_form ho5 (by simp)
      have hg5 := ho5.lt
      cases e5
      have hg5 := hg5 g5 rfl
      obtain ⟨_, o5, e5, l0, l1⟩ := rd5 0 _ rfl
      cases e5
      simp only [Nat.zero_mul, Nat.add_zero, Nat.zero_add, List.length_cons] at l0 l1
      obtain ⟨Y, hY⟩ : ∃ Y : Nat → Prop, Y = fun i => X i ∨ (w4.heap.size ≤ i ∧ i < w5.heap.size) := ⟨_, rfl⟩
      have hXY : ∀ i, X i → Y i := fun i hi => by rw [hY]; exact .inl hi
      have hYg : Y g5 := by rw [hY]; exact .inr hg5
      have LT4 := Lib.hid SM4.out.lt
      have SM5 := Lib.hid (show Sm Y w5 w.heap.size N from SM4.out.more hb5 fun i hi => by rw [hY] at hi; exact hi)
      have HB5 := Lib.hid hb5
      have HXY := Lib.hid hXY
      have s0 := (hb5.cell (p := ⟨ab, ao + k * 3, none⟩) (SM4.out.lt ab hXa)).trans r0
      have s1 := (hb5.cell (p := ⟨ab, ao + k * 3 + 1, none⟩) (SM4.out.lt ab hXa)).trans r1
      have s2 := (hb5.cell (p := ⟨ab, ao + k * 3 + 2, none⟩) (SM4.out.lt ab hXa)).trans r2
      have htl : ((((yk, yv) :: tl).length : Nat) : Int) = (tl.length : Int) + 1 := by simp
      rw [List.length_cons]
      clear rd5 ho5 hb5 hY hXY hg5 r0 r1 r2 htl hlist
      go_wp2_with fail
      refine (popE SM5.out (Below.refl _ _) (popT (yk, yv) (v : Int) true 0) (N.popped v) (fun r N' hp => by
        have h := pops_least HM.out v HH.out.1 HH.out.2.1 (fun u hu hhu hne => by rw [HH.out.2.2.1]; exact HH.out.2.2.2 u hu hhu hne) r N' hp
        rw [HH.out.2.2.1] at h; exact h)).mono ?_
      rintro r w6 ⟨rfl, sm, kx⟩
      have SM6 := Lib.hid sm
      have KX6 := Lib.hid kx
      have m0 := (World.cell?_of_block (a := ⟨ab, ao + k * 3, none⟩) (kx.block ab (HXY.out _ hXa))).trans s0
      have m1 := (World.cell?_of_block (a := ⟨ab, ao + k * 3 + 1, none⟩) (kx.block ab (HXY.out _ hXa))).trans s1
      have m2 := (World.cell?_of_block (a := ⟨ab, ao + k * 3 + 2, none⟩) (kx.block ab (HXY.out _ hXa))).trans s2
      have n0 := (World.cell?_of_block (a := ⟨g5, 0, none⟩) (kx.block g5 hYg)).trans l0
      have n1 := (World.cell?_of_block (a := ⟨g5, 1, none⟩) (kx.block g5 hYg)).trans l1
      have habl := Nat.lt_of_lt_of_le (SM5.out.lt ab (HXY.out _ hXa)) kx.size
      have hgl := Nat.lt_of_lt_of_le (SM5.out.lt g5 hYg) kx.size
      clear sm kx s0 s1 s2 l0 l1 SM5 SM4
      unfold popT
      go_wp2_with fail
      have BA := bel_alloc (Below.refl w6.heap.size w6) (.cells #[.int .u64 yk, .int .u64 yv] 39)
      have p0 : (w6.alloc (.cells #[.int .u64 yk, .int .u64 yv] 39)).cell? ⟨w6.heap.size, 0, none⟩ = some (.int .u64 yk) := by simp
      have p1 : (w6.alloc (.cells #[.int .u64 yk, .int .u64 yv] 39)).cell? ⟨w6.heap.size, 1, none⟩ = some (.int .u64 yv) := by simp
      replace m0 := (BA.cell (p := ⟨ab, ao + k * 3, none⟩) habl).trans m0
      replace m1 := (BA.cell (p := ⟨ab, ao + k * 3 + 1, none⟩) habl).trans m1
      replace m2 := (BA.cell (p := ⟨ab, ao + k * 3 + 2, none⟩) habl).trans m2
      replace n0 := (BA.cell (p := ⟨g5, 0, none⟩) hgl).trans n0
      replace n1 := (BA.cell (p := ⟨g5, 1, none⟩) hgl).trans n1
      have HBA := Lib.hid BA
      clear BA habl hgl
      generalize w6.alloc (.cells #[.int .u64 yk, .int .u64 yv] 39) = W7 at *
      generalize w6.heap.size = pb7 at p0 p1 ⊢
      have u1 : ((tl.length : Int) + 1 == 0) = false := by simp; omega
      have u2 : (0 : Int) < (tl.length : Int) + 1 := by omega
      go_quiet (fail)
      go_wp2_with fail
      go_roundw
      case rel =>
        have KX7 : Kx X w5 w6 := ⟨KX6.out.os, KX6.out.tape, KX6.out.output, KX6.out.size, fun i hi => KX6.out.block i (HXY.out i hi)⟩
        have BD := below_drewN HBA.out nq
        have hx6 : ∀ i, X i → i < w6.heap.size := fun i hi => SM6.out.lt i (HXY.out i hi)
        exact ⟨k + 1, N.popped v, R', by go_num, by omega, (SM6.out.below BD).less HXY.out, FD5.out, AR4.out.keep XP (fun i hi => (BD.block i (hx6 i hi)).trans ((KX7.block i hi).trans (HB5.out.block i (LT4.out i hi)))), (((KP.out.trans KP4.out).below HB5.out LT4.out).kx KX7).below BD hx6⟩
      case measure => simp [intOf]; omega
    · obtain rfl : k = all.length := by omega
      have t1 : decide ((all.length : Int) < (all.length : Int)) = false := decide_eq_false (by omega)
      rw [List.drop_length] at fe
      have FE := Lib.hid fe
      clear fe
      go_wp2_with fail
      refine FE.out.mono ?_
      rintro r w4 ⟨rfl, N, R', sm, hm, fd, ar, kp⟩
      have hno := fd.none sm.inv
      have SM4 := Lib.hid sm
      have KP4 := Lib.hid (KP.out.trans kp)
      have PO := Lib.hid (pops_none hm hno)
      clear sm hm fd ar kp hno
      go_wp2_with fail
      refine (popE SM4.out (Below.refl _ _) (popT (0, 0) 0 false 0) N PO.out).mono ?_
      rintro r w5 ⟨rfl, sm, kx⟩
      have BF := Lib.hid (BB.out.trans (kp_below (KP4.out.kx kx) HXB.out hpw))
      clear sm kx
      unfold popT
      go_wp2_with fail
      refine (known_any _ (T0.out.belowN hw0 (BF.out.alloc (BF.out.size) _))).mono ?_
      rintro r w6 ⟨rfl, hb⟩
      have BG := Lib.hid ((BF.out.alloc BF.out.size _).trans (hb.mono (BF.out.alloc BF.out.size _).size))
      clear hb
      go_wp2_with fail
      go_ret
      exact ⟨rfl, BG.out⟩
end Wk
end Go.Proofs.YtoplhlhbdidncaaDoor
