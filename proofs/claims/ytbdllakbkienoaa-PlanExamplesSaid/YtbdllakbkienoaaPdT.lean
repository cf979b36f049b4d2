/- Then of package plan (written by tools/mk6then.py): contract of the translated code. Conditions: at most 400 changes each. -/
import Derived.Test.YtbdllakbkienoaaPdK
namespace Go.Proofs.Ytbdllakbkienoaa
open Go.RowKit Go.Sort
set_option linter.unusedVariables false
set_option linter.unusedSimpArgs false
namespace Pl
open Om (addr_lit bel_alloc bel_trans below_drewN ret_eq)
theorem eT_true : eT true = .int .i64 0 := rfl
theorem eT_false : eT false = .int .i64 2 := rfl
/-- 'rest = rest[1:]': the address of what is left is left open where nothing is left -/
theorem tail5 {ops : Array Oper} {rest : List Oper} {o : Oper} {a : Act} {Q : Exit → Act → World → Prop} (hgd : o.guard = none) (s : Operand)
    (ho : o.op = .slice 27 s (some (.const (.int .i64 1))) none none) (w : World) (b o' r c : Nat)
    (hs : a.eval s = .slice (some ⟨b, o', none⟩) (r + 1) c) (hc : r + 1 ≤ c)
    (h : ∀ RA RC, (0 < r → RA = some ⟨b, o' + 5, none⟩) → r ≤ RC → (RA = none → RC = 0) → wpList Try.prog ops Q rest (a.put o.dst (.slice RA r RC)) w) :
    wpList Try.prog ops Q (o :: rest) a w := by
  have h1 : ((1 : Int) ≤ ((r + 1 : Nat) : Int)) := by omega
  have run : (Instr.sliceAt 27 (.slice (some ⟨b, o', none⟩) (r + 1) c) (some (.int .i64 1)) none none).run Try.prog w = .ok (sliced (some ⟨b, o', none⟩) 1 (r + 1) c 5) w := by
    have u : Try.prog.underlying 27 = some (.slice (Try.prog.elem 27)) := by kernel_rfl
    simp [go_sem, Instr.sliceBounds, hc]
    intro h; omega
  refine wpList_plain hgd fun K hK => ?_
  unfold Oper.wp execOp
  have ev : a.eval (.const (.int .i64 1)) = .int .i64 1 := rfl
  simp only [ho, hs, Option.map_some, Option.map_none, run, Sem.run_bind, Sem.run_pure, Result.andThen_ok, ev]
  by_cases hc1 : c = 1
  · subst hc1
    obtain rfl : r = 0 := by omega
    exact hK _ _ (h _ _ (fun h => absurd h (Nat.lt_irrefl 0)) (Nat.le_refl _) (fun h => by cases h))
  · have e : sliced (some ⟨b, o', none⟩) 1 (r + 1) c 5 = .slice (some ⟨b, o' + 5, none⟩) r (c - 1) := by
      unfold sliced
      rw [if_neg hc1]; rfl
    rw [e]
    exact hK _ _ (h _ _ (fun _ => rfl) (by omega) (fun h => by cases h))
/-- what is left behind k elements -/
def Tl (B : Option Addr) (sz k r : Nat) (v : Value) : Prop := ∃ RA RC, v = .slice RA r RC ∧ (0 < r → RA = rsA B sz k) ∧ r ≤ RC ∧ (RA = none → RC = 0)
theorem xor_ne {a b : Bool} (h : ¬ a = b) : (a ^^ b) = true := by cases a <;> cases b <;> simp_all
theorem xor_eq {a b : Bool} (h : a = b) : (a ^^ b) = false := by cases a <;> cases b <;> simp_all
theorem bne_of {a b : Bool} (h : ¬ a = b) : (a != b) = true := by cases a <;> cases b <;> simp_all
theorem bne_eq {a b : Bool} (h : a = b) : (a != b) = false := by cases a <;> cases b <;> simp_all
theorem beq_of {a b : Bool} (h : ¬ a = b) : (a == b) = false := by cases a <;> cases b <;> simp_all
theorem beq_eq {a b : Bool} (h : a = b) : (a == b) = true := by cases a <;> cases b <;> simp_all
theorem ibne {a b : Int} (h : ¬ a = b) : (a != b) = true := by simp [h]
theorem ibeq {a b : Int} (h : a = b) : (a != b) = false := by simp [h]
theorem or_of {x y : Cg} {rx ry : Rc} (hx : rawC x = rx) (hy : rawC y = ry) (h : ¬ (x.b = none ∧ y.a = none)) : rx.w = true ∨ ry.i = true := by
  rw [raw_ba, hx, hy] at h
  cases hw : rx.w <;> cases hi : ry.i <;> simp_all
/-- what Then of two plans answers -/
def TPost (w : World) (o : Option (List Cg)) (e : Ending) (w' : World) : Prop := match o with
  | some r => APost w 0 (r.map rawC) e w'
  | none => APost w 8 [] e w'
theorem rsA_zero (B : Option Addr) (sz : Nat) : rsA B sz 0 = B := by
  cases B with
  | none => rfl
  | some a => simp [rsA, Addr.add]
theorem rsA_next (b o sz k : Nat) : rsA (some ⟨b, o, none⟩) sz (k + 1) = some ⟨b, o + k * sz + sz, none⟩ := by simp only [rsA, Option.map_some, addr_lit]; rw [Nat.succ_mul, Nat.add_assoc]
theorem rsA_at (b o sz k : Nat) : rsA (some ⟨b, o, none⟩) sz k = some ⟨b, o + k * sz, none⟩ := by simp only [rsA, Option.map_some, addr_lit]
theorem map_snoc {o : List Cg} {z : Cg} {A : Option (List Cg)} : A.map ((o ++ [z]) ++ ·) = (A.map (z :: ·)).map (o ++ ·) := by cases A <;> simp
theorem raws_snoc (o : List Cg) (z : Cg) : (o ++ [z]).map rawC = o.map rawC ++ [rawC z] := by simp
theorem B5.drewN {w : World} {p : Nat} {x : Rc} (h : B5 w p x) (n : Nat) : B5 (w.drewN n) p x := ⟨h.c0, h.c1, h.c2, h.c3, h.c4, h.f1, h.f2, h.f3, h.f4⟩
theorem row_drewN {w : World} {B n : Nat} {t : TypeId} {v : Value} {xs : List Value} (h : w.ownsRow B t 5 v n xs) (k : Nat) : (w.drewN k).ownsRow B t 5 v n xs := h
set_option maxRecDepth 100000 in
set_option maxHeartbeats 4000000 in
theorem then_walk (A B : Option Addr) (n c m d : Nat) (La Lb : List Cg) (w : World) (hn : La.length = n) (hm : Lb.length = m) (hs : n ≤ 400) (hs2 : m ≤ 400) (hmd : m ≤ d) (hz : B = none → d = 0) (hr : Rd w A (La.map rawC)) (hr2 : Rd w B (Lb.map rawC)) (ka : chk (La.map rawC)) (kb : chk (Lb.map rawC)) :
    Calls Try.prog 26 #[.slice A n c, .slice B m d] w (TPost w (thW La Lb)) := by
  have HA := Lib.hid hr; have HB := Lib.hid hr2; clear hr hr2
  have LA := Lib.hid hn; have LB := Lib.hid hm; clear hn hm
  have HZ := Lib.hid hz; clear hz
  have CA := Lib.hid (checkP_any A n c (La.map rawC) w (by rw [List.length_map]; exact LA.out) (by omega) HA.out true ⟨fun _ => ka, fun _ => rfl⟩)
  have CB := fun W (b : Below w.heap.size w W) => Lib.hid (checkP_any B m d (Lb.map rawC) W (by rw [List.length_map]; exact LB.out) (by omega) (HB.out.below b) true ⟨fun _ => kb, fun _ => rfl⟩)
  simp only [eT_true] at CA CB
  clear ka kb
  obtain ⟨T, hT⟩ : ∃ T, thW La Lb = T := ⟨_, rfl⟩
  rw [hT]
  have HT := Lib.hid hT; clear hT
  go_enter Try.func26, Try.ntmps26
  go_wp2
  go_step3
  go_wp2_with fail
  refine CA.out.mono ?_
  rintro r W1 ⟨rfl, b1⟩
  go_wp2_with fail
  refine (CB _ b1).out.mono ?_
  rintro r W2 ⟨rfl, b2⟩
  have bw2 := bel_trans b1 b2
  have HA := Lib.hid (HA.out.below bw2)
  have HB := Lib.hid (HB.out.below bw2)
  clear b2
  clear CA CB b1
  go_wp2
  go_step3
  go_wp2
  go_loopg [8, 9, 26] n (fun g q rs i wr => ∃ (o : List Cg) (j k r : Nat), j + g = n ∧ r + k = m ∧ i = .int .i64 (j : Int) ∧ Tl B 5 k r rs ∧ Hid ((thW (La.drop j) (Lb.drop k)).map (o ++ ·) = T) ∧ o.length ≤ j + k ∧ wr.ownsRow W2.heap.size 45 5 q o.length (flat (o.map rawC)) ∧ Below W2.heap.size W2 wr)
  case atStart => exact ⟨[], 0, 0, m, by omega, by omega, rfl, ⟨_, _, rfl, fun _ => (rsA_zero B 5).symm, hmd, HZ.out⟩, Lib.hid (by rw [← HT.out]; simp), Nat.zero_le _, World.ownsRow_nil _ _ _ _, Below.refl _ _⟩
  case round =>
    obtain ⟨o, j, k, r, hjg, hrk, rfl, ⟨RA, RC, rfl, ht⟩, hE, hol, hq, bel⟩ := hrel
    have HQ := Lib.hid hq; clear hq
    have TL := Lib.hid ht; clear ht
    cases gk with
    | zero =>
      obtain rfl : j = n := by omega
      have u0 : decide ((j : Int) < j) = false := decide_eq_false (by omega)
      have HF := Lib.hid (show T = some (o ++ Lb.drop k) from by
        rw [← hE.out, List.drop_eq_nil_of_le (by rw [LA.out]; omega)]; rfl)
      have LD := Lib.hid (show ((Lb.drop k).map rawC).length = r by rw [List.length_map, List.length_drop, LB.out]; omega)
      have RD := Lib.hid (show Rd wr RA ((Lb.drop k).map rawC) by
        by_cases h0 : 0 < r
        · rw [TL.out.1 h0, List.map_drop]; exact (HB.out.below bel).drop k
        · have : (Lb.drop k).map rawC = [] := List.eq_nil_of_length_eq_zero (by rw [LD.out]; omega)
          rw [this]
          intro q y hq; simp at hq)
      have NZ := Lib.hid TL.out.2.2
      clear hE
      go_wp2_with (at_builtin; refine appL3 rfl (.tmp 93) (.tmp 94) rfl _ W2.heap.size _ _ (o.map rawC) RA r RC ((Lb.drop k).map rawC) rfl rfl HQ.out LD.out RD.out NZ.out (by omega) bel.size ?_; intro v8 w8 h1 b8; have HW8 := Lib.hid h1; clear h1)
      try rw [Exit.noGoto_ret]
      go_ret2
      rw [HF.out]
      refine ⟨_, rfl, row_base ?_ bw2.size, bel_trans bw2 (bel.trans b8)⟩
      have h := HW8.out
      rw [← List.map_append] at h
      rw [show ((o ++ Lb.drop k).map rawC).length = o.length + r by have := LD.out; rw [List.length_map] at this; rw [List.length_map, List.length_append, this]]
      exact h
    | succ g =>
      obtain ⟨x, hx, _⟩ := cg_lt LA.out (show j < n by omega)
      have HDX := Lib.hid (drop_cg hx)
      have hxr := raw_at hx
      obtain ⟨b1, o1, eA, g0, g1, g2, g3, g4⟩ := (HA.out.below bel) j _ hxr
      subst eA
      have u0 : decide ((j : Int) < n) = true := decide_eq_true (by omega)
      have hji : (j : Int) < n := by omega
      obtain ⟨rx, hrx⟩ : ∃ rx, rawC x = rx := ⟨_, rfl⟩
      rw [hrx] at g0 g1 g2 g3 g4
      have XK := Lib.hid (show rx.k = x.k by rw [← hrx]; rfl)
      have HRX := Lib.hid hrx
      clear hx hxr hrx
      go_upto_region 12 with fail
      have X := Lib.hid (B5.made wr rx)
      have ba := bel_alloc (Below.refl wr.heap.size wr) (.cells #[.int .u64 rx.k, .bool rx.w, .int .u64 rx.o, .bool rx.i, .int .u64 rx.n] 45)
      have bel2 := bel_trans bel ba
      have HQ2 := Lib.hid (row_below HQ.out ba)
      have xlt : W2.heap.size ≤ wr.heap.size := bel.size
      have qne : ∀ v, wr.ownsRow W2.heap.size 45 5 v o.length (flat (o.map rawC)) → v.ownBlock ≠ some wr.heap.size := fun v h e => by have := (h.lt _ e).2; omega
      have QNE := Lib.hid (qne _ HQ.out)
      have HE := Lib.hid (show (thW (x :: La.drop (j + 1)) (Lb.drop k)).map (o ++ ·) = T by rw [← HDX.out]; exact hE.out)
      clear g0 g1 g2 g3 g4 ba HQ hE qne bel
      generalize wr.alloc (.cells #[.int .u64 rx.k, .bool rx.w, .int .u64 rx.o, .bool rx.i, .int .u64 rx.n] 45) = W3 at *
      generalize wr.heap.size = xb at *
      go_loopg [8, 9] r (fun g2 q rs wy => ∃ (o : List Cg) (k : Nat), g2 + k = m ∧ Tl B 5 k g2 rs ∧ Hid ((thW (x :: La.drop (j + 1)) (Lb.drop k)).map (o ++ ·) = T) ∧ o.length ≤ j + k ∧ wy.ownsRow W2.heap.size 45 5 q o.length (flat (o.map rawC)) ∧ Hid (q.ownBlock ≠ some xb) ∧ Hid (B5 wy xb rx) ∧ Below W2.heap.size W2 wy)
      case atStart => exact ⟨o, k, hrk, ⟨RA, RC, rfl, TL.out⟩, HE, hol, HQ2.out, QNE, X, bel2⟩
      case round =>
        clear HE hol HQ2 QNE X bel2 hrk TL
        obtain ⟨o, k, hrk, ⟨RA, RC, rfl, ht⟩, hE, hol, hq, qne, X, bel⟩ := hrel
        have HQ := Lib.hid hq; clear hq
        have TL := Lib.hid ht; clear ht
        have x0 := X.out.c0; have x1 := X.out.c1; have x2 := X.out.c2; have x3 := X.out.c3; have x4 := X.out.c4
        cases gk with
        | zero =>
          obtain rfl : k = m := by omega
          have HN := Lib.hid (show (thW (La.drop (j + 1)) (Lb.drop k)).map ((o ++ [x]) ++ ·) = T from by
            have h := hE.out
            have hd : Lb.drop k = [] := List.drop_eq_nil_of_le (by rw [LB.out]; omega)
            rw [hd] at h ⊢
            rw [map_snoc, ← thW_end]; exact h)
          clear hE
          go_wp2
          go_quiet (fail)
          go_wp2_with (at_builtin; refine app3 rfl (.tmp 88) (.tmp 90) rfl _ W2.heap.size _ _ (o.map rawC) rx rfl rfl (row_drewN HQ.out _) (by omega) bel.size ?_; intro v8 w8 h1 b8 k8; have HW8 := Lib.hid h1; clear h1 k8)
          go_roundg g
          case measure => omega
          case rel => exact ⟨o ++ [x], j + 1, k, 0, by omega, by omega, by go_num, ⟨_, _, rfl, TL.out⟩, HN, by rw [List.length_append, List.length_singleton]; omega, by rw [List.length_append, raws_snoc, HRX.out]; exact HW8.out, (below_drewN bel _).trans b8⟩
        | succ g2 =>
          obtain ⟨y, hy, _⟩ := cg_lt LB.out (show k < m by omega)
          have HDY := Lib.hid (drop_cg hy)
          obtain ⟨b2, o2, eB, h0, h1, h2, h3, h4⟩ := (HB.out.below bel) k _ (raw_at hy)
          subst eB
          obtain ⟨ry, hry⟩ : ∃ ry, rawC y = ry := ⟨_, rfl⟩
          rw [hry] at h0 h1 h2 h3 h4
          have YK := Lib.hid (show ry.k = y.k by rw [← hry]; rfl)
          have HRY := Lib.hid hry
          have hE := Lib.hid (show (thW (x :: La.drop (j + 1)) (y :: Lb.drop (k + 1))).map (o ++ ·) = T by rw [← HDY.out]; exact hE.out)
          clear hy hry
          obtain rfl : RA = some ⟨b2, o2 + k * 5, none⟩ := by rw [TL.out.1 (by omega), rsA_at]
          have hrc : g2 + 1 ≤ RC := TL.out.2.1
          rcases Int.lt_trichotomy rx.k ry.k with hxy | hxy | hxy
          · have t1 : decide (ry.k ≤ rx.k) = false := decide_eq_false (by omega)
            have HN := Lib.hid (show (thW (La.drop (j + 1)) (Lb.drop k)).map ((o ++ [x]) ++ ·) = T from by
              have h := hE.out
              have := XK.out; have := YK.out
              rw [thW_cons, if_neg (by omega), if_neg (by omega)] at h
              rw [map_snoc, HDY.out]; exact h)
            clear hE hxy
            go_wp2
            go_quiet (fail)
            go_wp2_with (at_builtin; refine app3 rfl (.tmp 88) (.tmp 90) rfl _ W2.heap.size _ _ (o.map rawC) rx rfl rfl (row_drewN HQ.out _) (by omega) bel.size ?_; intro v8 w8 h1 b8 k8; have HW8 := Lib.hid h1; clear h1 k8)
            go_roundg g
            case measure => omega
            case rel => exact ⟨o ++ [x], j + 1, k, g2 + 1, by omega, by omega, by go_num, ⟨_, _, rfl, TL.out⟩, HN, by rw [List.length_append, List.length_singleton]; omega, by rw [List.length_append, raws_snoc, HRX.out]; exact HW8.out, (below_drewN bel _).trans b8⟩
          · have t1 : decide (ry.k ≤ rx.k) = true := decide_eq_true (by omega)
            have t2 : decide (ry.k < rx.k) = false := decide_eq_false (by omega)
            have hk := hxy
            clear hxy
            go_wp2
            go_quiet (fail)
            have HQ := Lib.hid (row_drewN HQ.out nq)
            have X := Lib.hid (X.out.drewN nq)
            replace bel := below_drewN bel nq
            replace h0 := (show (wr.drewN nq).cell? _ = _ from h0)
            replace h1 := (show (wr.drewN nq).cell? _ = _ from h1)
            replace h2 := (show (wr.drewN nq).cell? _ = _ from h2)
            replace h3 := (show (wr.drewN nq).cell? _ = _ from h3)
            replace h4 := (show (wr.drewN nq).cell? _ = _ from h4)
            have xlt2 : xb < (wr.drewN nq).heap.size := X.out.lt
            clear x0 x1 x2 x3 x4
            generalize wr.drewN nq = wz at *
            go_upto_region 14 with fail
            have Y := Lib.hid (B5.made wz ry)
            have ba := bel_alloc (Below.refl wz.heap.size wz) (.cells #[.int .u64 ry.k, .bool ry.w, .int .u64 ry.o, .bool ry.i, .int .u64 ry.n] 45)
            replace bel := bel_trans bel ba
            have HQ := Lib.hid (row_below HQ.out ba)
            have X := Lib.hid (X.out.below ba)
            have xlt3 : xb < (wz.alloc (.cells #[.int .u64 ry.k, .bool ry.w, .int .u64 ry.o, .bool ry.i, .int .u64 ry.n] 45)).heap.size := Nat.lt_of_lt_of_le xlt2 ba.size
            clear h0 h1 h2 h3 h4 ba
            generalize wz.alloc (.cells #[.int .u64 ry.k, .bool ry.w, .int .u64 ry.o, .bool ry.i, .int .u64 ry.n] 45) = wy at *
            generalize wz.heap.size = yb at *
            have x0 := X.out.c0; have x1 := X.out.c1; have x2 := X.out.c2; have x3 := X.out.c3; have x4 := X.out.c4
            have y0 := Y.out.c0; have y1 := Y.out.c1; have y2 := Y.out.c2; have y3 := Y.out.c3; have y4 := Y.out.c4
            by_cases c1 : x.a = y.b
            · have c1' := raw_ab.1 c1
              rw [HRX.out, HRY.out] at c1'
              have u1 : (rx.i != ry.w) = false := bne_eq c1'.1
              have u2 : (rx.i ^^ ry.w) = false := xor_eq c1'.1
              have u3 : (rx.i == ry.w) = true := beq_eq c1'.1
              have u4' : (rx.n != ry.o) = false := ibeq c1'.2
              by_cases c2 : x.b = none ∧ y.a = none
              · have c2' := raw_ba.1 c2
                rw [HRX.out, HRY.out] at c2'
                have HN := Lib.hid (show (thW (La.drop (j + 1)) (Lb.drop (k + 1))).map (o ++ ·) = T from by
                  have h := hE.out
                  have := XK.out; have := YK.out
                  rw [thW_cons, if_neg (by omega), if_pos (by omega), if_pos c1, if_pos c2] at h
                  exact h)
                have v1 := c2'.1; have v2 := c2'.2
                clear hE c1 c1' c2 c2' hk
                rw [v1] at x1; rw [v2] at y3
                go_wp2_with (refine tail5 rfl (.tmp 45) rfl _ b2 (o2 + k * 5) g2 RC rfl hrc ?_; intro RA2 RC2 e1 e2 e3; have TL2 := Lib.hid (show (0 < g2 → RA2 = rsA (some ⟨b2, o2, none⟩) 5 (k + 1)) ∧ g2 ≤ RC2 ∧ (RA2 = none → RC2 = 0) from ⟨fun h => by rw [rsA_next]; exact e1 h, e2, e3⟩); clear e1 e2 e3)
                go_roundg g
                case measure => omega
                case rel => exact ⟨o, j + 1, k + 1, g2, by omega, by omega, by go_num, ⟨_, _, rfl, TL2.out⟩, HN, by omega, HQ.out, bel⟩
              · have v3 : rx.w = true ∨ ry.i = true := or_of HRX.out HRY.out c2
                have HN := Lib.hid (show (thW (La.drop (j + 1)) (Lb.drop (k + 1))).map ((o ++ [⟨x.k, x.b, y.a⟩]) ++ ·) = T from by
                  have h := hE.out
                  have := XK.out; have := YK.out
                  rw [thW_cons, if_neg (by omega), if_pos (by omega), if_pos c1, if_neg c2] at h
                  rw [map_snoc]; exact h)
                have HZ2 := Lib.hid (show rawC ⟨x.k, x.b, y.a⟩ = ⟨rx.k, rx.w, rx.o, ry.i, ry.n⟩ by rw [← HRX.out, ← HRY.out]; rfl)
                clear hE c1 c1' c2 hk
                have tail : True := trivial
                by_cases v1 : rx.w = true
                · skip
                  clear v3
                  rw [v1] at HZ2 x1
                  go_wp2_with (first | (refine tail5 rfl (.tmp 45) rfl _ b2 (o2 + k * 5) g2 RC rfl hrc ?_; intro RA2 RC2 e1 e2 e3; have TL2 := Lib.hid (show (0 < g2 → RA2 = rsA (some ⟨b2, o2, none⟩) 5 (k + 1)) ∧ g2 ≤ RC2 ∧ (RA2 = none → RC2 = 0) from ⟨fun h => by rw [rsA_next]; exact e1 h, e2, e3⟩); clear e1 e2 e3) | (at_builtin; refine app3 rfl (.tmp 74) (.tmp 86) rfl _ W2.heap.size _ _ (o.map rawC) ⟨rx.k, true, rx.o, ry.i, ry.n⟩ rfl rfl HQ.out (by omega) bel.size ?_; intro v8 w8 h1 b8 k8; have HW8 := Lib.hid h1; clear h1 k8))
                  go_roundg g
                  case measure => omega
                  case rel => exact ⟨o ++ [⟨x.k, x.b, y.a⟩], j + 1, k + 1, g2, by omega, by omega, by go_num, ⟨_, _, rfl, TL2.out⟩, HN, by rw [List.length_append, List.length_singleton]; omega, by rw [List.length_append, raws_snoc, HZ2.out]; exact HW8.out, bel.trans b8⟩
                · replace v1 : rx.w = false := by cases h : rx.w; rfl; exact absurd h v1
                  have v2 : ry.i = true := by rcases v3 with h | h; rw [h] at v1; cases v1; exact h
                  clear v3
                  rw [v1] at HZ2 x1
                  rw [v2] at HZ2 y3
                  go_wp2_with (first | (refine tail5 rfl (.tmp 45) rfl _ b2 (o2 + k * 5) g2 RC rfl hrc ?_; intro RA2 RC2 e1 e2 e3; have TL2 := Lib.hid (show (0 < g2 → RA2 = rsA (some ⟨b2, o2, none⟩) 5 (k + 1)) ∧ g2 ≤ RC2 ∧ (RA2 = none → RC2 = 0) from ⟨fun h => by rw [rsA_next]; exact e1 h, e2, e3⟩); clear e1 e2 e3) | (at_builtin; refine app3 rfl (.tmp 74) (.tmp 86) rfl _ W2.heap.size _ _ (o.map rawC) ⟨rx.k, false, rx.o, true, ry.n⟩ rfl rfl HQ.out (by omega) bel.size ?_; intro v8 w8 h1 b8 k8; have HW8 := Lib.hid h1; clear h1 k8))
                  go_roundg g
                  case measure => omega
                  case rel => exact ⟨o ++ [⟨x.k, x.b, y.a⟩], j + 1, k + 1, g2, by omega, by omega, by go_num, ⟨_, _, rfl, TL2.out⟩, HN, by rw [List.length_append, List.length_singleton]; omega, by rw [List.length_append, raws_snoc, HZ2.out]; exact HW8.out, bel.trans b8⟩
            · have HN := Lib.hid (show T = none from by
                have h := hE.out
                have := XK.out; have := YK.out
                rw [thW_cons, if_neg (by omega), if_pos (by omega), if_neg c1] at h
                exact h.symm)
              by_cases c3 : rx.i = ry.w
              · have c4 : ¬ rx.n = ry.o := fun h => c1 (raw_ab.2 (by rw [HRX.out, HRY.out]; exact ⟨c3, h⟩))
                have u1 : (rx.i != ry.w) = false := bne_eq c3
                have u2 : (rx.i ^^ ry.w) = false := xor_eq c3
                have u3 : (rx.i == ry.w) = true := beq_eq c3
                have u4' : (rx.n != ry.o) = true := ibne c4
                clear hE c1 c3 c4 hk
                go_wp2_with (refine tail5 rfl (.tmp 45) rfl _ b2 (o2 + k * 5) g2 RC rfl hrc ?_; intro RA2 RC2 e1 e2 e3; have TL2 := Lib.hid (show (0 < g2 → RA2 = rsA (some ⟨b2, o2, none⟩) 5 (k + 1)) ∧ g2 ≤ RC2 ∧ (RA2 = none → RC2 = 0) from ⟨fun h => by rw [rsA_next]; exact e1 h, e2, e3⟩); clear e1 e2 e3)
                try rw [Exit.noGoto_ret]
                go_ret2
                rw [HN.out]
                exact APost.err (bel_trans bw2 bel)
              · have u1 : (rx.i != ry.w) = true := bne_of c3
                have u2 : (rx.i ^^ ry.w) = true := xor_ne c3
                have u3 : (rx.i == ry.w) = false := beq_of c3
                clear hE c1 c3 hk
                go_wp2_with (refine tail5 rfl (.tmp 45) rfl _ b2 (o2 + k * 5) g2 RC rfl hrc ?_; intro RA2 RC2 e1 e2 e3; have TL2 := Lib.hid (show (0 < g2 → RA2 = rsA (some ⟨b2, o2, none⟩) 5 (k + 1)) ∧ g2 ≤ RC2 ∧ (RA2 = none → RC2 = 0) from ⟨fun h => by rw [rsA_next]; exact e1 h, e2, e3⟩); clear e1 e2 e3)
                try rw [Exit.noGoto_ret]
                go_ret2
                rw [HN.out]
                exact APost.err (bel_trans bw2 bel)
          · have t1 : decide (ry.k ≤ rx.k) = true := decide_eq_true (by omega)
            have t2 : decide (ry.k < rx.k) = true := decide_eq_true (by omega)
            have HN := Lib.hid (show (thW (x :: La.drop (j + 1)) (Lb.drop (k + 1))).map ((o ++ [y]) ++ ·) = T from by
              have h := hE.out
              have := XK.out; have := YK.out
              rw [thW_cons, if_pos (by omega)] at h
              rw [map_snoc]; exact h)
            clear hxy hE
            go_wp2
            go_quiet (fail)
            have HQ := Lib.hid (row_drewN HQ.out nq)
            have X := Lib.hid (X.out.drewN nq)
            replace bel := below_drewN bel nq
            replace h0 := (show (wr.drewN nq).cell? _ = _ from h0)
            replace h1 := (show (wr.drewN nq).cell? _ = _ from h1)
            replace h2 := (show (wr.drewN nq).cell? _ = _ from h2)
            replace h3 := (show (wr.drewN nq).cell? _ = _ from h3)
            replace h4 := (show (wr.drewN nq).cell? _ = _ from h4)
            have xlt2 : xb < (wr.drewN nq).heap.size := X.out.lt
            clear x0 x1 x2 x3 x4
            generalize wr.drewN nq = wz at *
            go_upto_region 14 with fail
            have Y := Lib.hid (B5.made wz ry)
            have ba := bel_alloc (Below.refl wz.heap.size wz) (.cells #[.int .u64 ry.k, .bool ry.w, .int .u64 ry.o, .bool ry.i, .int .u64 ry.n] 45)
            replace bel := bel_trans bel ba
            have HQ := Lib.hid (row_below HQ.out ba)
            have X := Lib.hid (X.out.below ba)
            have xlt3 : xb < (wz.alloc (.cells #[.int .u64 ry.k, .bool ry.w, .int .u64 ry.o, .bool ry.i, .int .u64 ry.n] 45)).heap.size := Nat.lt_of_lt_of_le xlt2 ba.size
            clear h0 h1 h2 h3 h4 ba
            generalize wz.alloc (.cells #[.int .u64 ry.k, .bool ry.w, .int .u64 ry.o, .bool ry.i, .int .u64 ry.n] 45) = wy at *
            generalize wz.heap.size = yb at *
            have x0 := X.out.c0; have x1 := X.out.c1; have x2 := X.out.c2; have x3 := X.out.c3; have x4 := X.out.c4
            have y0 := Y.out.c0; have y1 := Y.out.c1; have y2 := Y.out.c2; have y3 := Y.out.c3; have y4 := Y.out.c4
            go_wp2_with (first | (refine tail5 rfl (.tmp 45) rfl _ b2 (o2 + k * 5) g2 RC rfl hrc ?_; intro RA2 RC2 e1 e2 e3; have TL2 := Lib.hid (show (0 < g2 → RA2 = rsA (some ⟨b2, o2, none⟩) 5 (k + 1)) ∧ g2 ≤ RC2 ∧ (RA2 = none → RC2 = 0) from ⟨fun h => by rw [rsA_next]; exact e1 h, e2, e3⟩); clear e1 e2 e3) | (at_builtin; refine app3 rfl (.tmp 52) (.tmp 54) rfl _ W2.heap.size _ _ (o.map rawC) ry rfl rfl HQ.out (by omega) bel.size ?_; intro v8 w8 h1 b8 k8; have HW8 := Lib.hid h1; clear h1; have K8 := Lib.hid k8; clear k8))
            go_roundg g2
            case measure => omega
            case rel => exact ⟨o ++ [y], k + 1, by omega, ⟨_, _, rfl, TL2.out⟩, HN, by rw [List.length_append, List.length_singleton]; omega, by rw [List.length_append, raws_snoc, HRY.out]; exact HW8.out, Lib.hid (K8.out.ne xlt3 qne.out), Lib.hid (X.out.keep (K8.out.blk _ xlt3 qne.out)), bel.trans b8⟩
end Pl
end Go.Proofs.Ytbdllakbkienoaa
