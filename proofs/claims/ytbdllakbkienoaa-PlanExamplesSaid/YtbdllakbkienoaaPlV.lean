/- Then of leapfrogref06: contract of the translated code. Conditions: at most 200 changes each. -/
import Derived.Test.YtbdllakbkienoaaPdV
import Derived.Test.YtbdllakbkienoaaPdP
namespace Go.Proofs.Ytbdllakbkienoaa
open Go.RowKit Go.Sort
set_option linter.unusedVariables false
set_option linter.unusedSimpArgs false
namespace Pl
open Om (addr_lit bel_alloc bel_trans below_drewN ret_eq Asc)
theorem fnd_raw : ∀ (L : List Cg) (k : Int), fnd (L.map rawC) k = (getC L k).map rawC
  | [], k => rfl
  | x :: L, k => by
    show (rawC x :: L.map rawC).find? _ = _
    rw [getC_cons, List.find?_cons]
    by_cases e : x.k = k
    · rw [if_pos e]; simp [rawC, e]
    · rw [if_neg e, ← fnd_raw L k]
      have : decide ((rawC x).k = k) = false := decide_eq_false e
      rw [this]; rfl
theorem kys_raw (L : List Cg) : kys (L.map rawC) = keysC L := by
  rw [kys_eq, canon_raws]
def thF (a b : List Cg) (ks : List Int) : List Cg := ks.filterMap fun k => jn k (getC a k) (getC b k)
theorem thF_take {a b : List Cg} {ks : List Int} {j : Nat} {k : Int} (h : ks[j]? = some k) : thF a b (ks.take (j + 1)) = thF a b (ks.take j) ++ (jn k (getC a k) (getC b k)).toList := by
  unfold thF
  rw [List.take_add_one, h, List.filterMap_append]
  congr 1
theorem fnd_form (g : Option Cg) : ∃ rx bx, fT (g.map rawC) = .tuple #[.agg #[.int .u64 rx.k, .bool rx.w, .int .u64 rx.o, .bool rx.i, .int .u64 rx.n], .bool bx] ∧ ((g = none ∧ bx = false) ∨ ∃ x, g = some x ∧ rx = rawC x ∧ bx = true) := by
  cases g with
  | none => exact ⟨⟨0, false, 0, false, 0⟩, false, rfl, .inl ⟨rfl, rfl⟩⟩
  | some x => exact ⟨rawC x, true, rfl, .inr ⟨x, rfl, rfl, rfl⟩⟩
theorem B5.set5 {W : World} {p : Nat} {x : Rc} (h : B5 W p x) (y : Rc) : B5 (((((W.setCell ⟨p, 0, none⟩ (.int .u64 y.k)).setCell ⟨p, 1, none⟩ (.bool y.w)).setCell ⟨p, 2, none⟩ (.int .u64 y.o)).setCell ⟨p, 3, none⟩ (.bool y.i)).setCell ⟨p, 4, none⟩ (.int .u64 y.n)) p y := by
  have h1 := h.c1; have h2 := h.c2; have h3 := h.c3; have h4 := h.c4; have h0 := h.c0
  refine ⟨?_, ?_, ?_, ?_, ?_, ?_, ?_, ?_, ?_⟩
  · rw [World.cell?_setCell_other _ _ _ _ (by simp), World.cell?_setCell_other _ _ _ _ (by simp), World.cell?_setCell_other _ _ _ _ (by simp), World.cell?_setCell_other _ _ _ _ (by simp)]; exact World.cell?_setCell_same _ _ _ h0
  · rw [World.cell?_setCell_other _ _ _ _ (by simp), World.cell?_setCell_other _ _ _ _ (by simp), World.cell?_setCell_other _ _ _ _ (by simp)]; exact World.cell?_setCell_same _ _ _ (by rw [World.cell?_setCell_other _ _ _ _ (by simp)]; exact h1)
  · rw [World.cell?_setCell_other _ _ _ _ (by simp), World.cell?_setCell_other _ _ _ _ (by simp)]; exact World.cell?_setCell_same _ _ _ (by rw [World.cell?_setCell_other _ _ _ _ (by simp), World.cell?_setCell_other _ _ _ _ (by simp)]; exact h2)
  · rw [World.cell?_setCell_other _ _ _ _ (by simp)]; exact World.cell?_setCell_same _ _ _ (by rw [World.cell?_setCell_other _ _ _ _ (by simp), World.cell?_setCell_other _ _ _ _ (by simp), World.cell?_setCell_other _ _ _ _ (by simp)]; exact h3)
  · exact World.cell?_setCell_same _ _ _ (by rw [World.cell?_setCell_other _ _ _ _ (by simp), World.cell?_setCell_other _ _ _ _ (by simp), World.cell?_setCell_other _ _ _ _ (by simp), World.cell?_setCell_other _ _ _ _ (by simp)]; exact h4)
  · rw [World.frozen?_setCell, World.frozen?_setCell, World.frozen?_setCell, World.frozen?_setCell, World.frozen?_setCell]; exact h.f1
  · rw [World.frozen?_setCell, World.frozen?_setCell, World.frozen?_setCell, World.frozen?_setCell, World.frozen?_setCell]; exact h.f2
  · rw [World.frozen?_setCell, World.frozen?_setCell, World.frozen?_setCell, World.frozen?_setCell, World.frozen?_setCell]; exact h.f3
  · rw [World.frozen?_setCell, World.frozen?_setCell, World.frozen?_setCell, World.frozen?_setCell, World.frozen?_setCell]; exact h.f4
theorem real_or {x : Cg} (h : x.b ≠ none ∨ x.a ≠ none) : (rawC x).w = true ∨ (rawC x).i = true := by
  obtain ⟨k, b, a⟩ := x
  cases b <;> cases a <;> simp_all [rawC]
theorem thF_len (a b : List Cg) (ks : List Int) : (thF a b ks).length ≤ ks.length := List.length_filterMap_le _ _
def okK (a b : List Cg) (k : Int) : Prop := ∀ x y, getC a k = some x → getC b k = some y → x.a = y.b
theorem okT_all {a b : List Cg} (h : ∀ k, k ∈ mergeK (keysC a) (keysC b) → okK a b k) : okT a b := fun k x y hx hy => h k ((mergeK_mem _ _ _).2 (.inl (keysC_mem.2 (by rw [hx]; simp)))) x y hx hy
theorem B5.set34 {W : World} {p : Nat} {x : Rc} (h : B5 W p x) (i : Bool) (n : Int) : B5 ((W.setCell ⟨p, 3, none⟩ (.bool i)).setCell ⟨p, 4, none⟩ (.int .u64 n)) p ⟨x.k, x.w, x.o, i, n⟩ := by
  refine ⟨?_, ?_, ?_, ?_, ?_, ?_, ?_, ?_, ?_⟩
  · rw [World.cell?_setCell_other _ _ _ _ (by simp), World.cell?_setCell_other _ _ _ _ (by simp)]; exact h.c0
  · rw [World.cell?_setCell_other _ _ _ _ (by simp), World.cell?_setCell_other _ _ _ _ (by simp)]; exact h.c1
  · rw [World.cell?_setCell_other _ _ _ _ (by simp), World.cell?_setCell_other _ _ _ _ (by simp)]; exact h.c2
  · rw [World.cell?_setCell_other _ _ _ _ (by simp)]; exact World.cell?_setCell_same _ _ _ h.c3
  · exact World.cell?_setCell_same _ _ _ (by rw [World.cell?_setCell_other _ _ _ _ (by simp)]; exact h.c4)
  · rw [World.frozen?_setCell, World.frozen?_setCell]; exact h.f1
  · rw [World.frozen?_setCell, World.frozen?_setCell]; exact h.f2
  · rw [World.frozen?_setCell, World.frozen?_setCell]; exact h.f3
  · rw [World.frozen?_setCell, World.frozen?_setCell]; exact h.f4
def zR : Rc := ⟨0, false, 0, false, 0⟩
set_option maxRecDepth 100000 in
set_option maxHeartbeats 2000000 in
theorem thenR_ok (A B : Option Addr) (n c m d : Nat) (La Lb : List Cg) (w : World) (hn : La.length = n) (hm : Lb.length = m) (hs : n ≤ 200) (hs2 : m ≤ 200) (hr : Rd w A (La.map rawC)) (hr2 : Rd w B (Lb.map rawC)) (ka : chk (La.map rawC)) (kb : chk (Lb.map rawC)) (E : Int) (R : List Rc) (hyes : okT La Lb → E = 0 ∧ R = (thL La Lb).map rawC) (hno : ¬ okT La Lb → E = 8 ∧ R = []) :
    Calls Try.prog 27 #[.slice A n c, .slice B m d] w (APost w E R) := by
  have lA : (La.map rawC).length = n := by rw [List.length_map]; exact hn
  have lB : (Lb.map rawC).length = m := by rw [List.length_map]; exact hm
  have CA := Lib.hid (checkR_any A n c (La.map rawC) w lA (by omega) hr true ⟨fun _ => ka, fun _ => rfl⟩)
  have CB := fun W (b : Below w.heap.size w W) => Lib.hid (checkR_any B m d (Lb.map rawC) W lB (by omega) (hr2.below b) true ⟨fun _ => kb, fun _ => rfl⟩)
  simp only [eT_true] at CA CB
  have KA := fun W (b : Below w.heap.size w W) => Lib.hid (keysR_any A n c (La.map rawC) W lA (by omega) (hr.below b))
  have KB := fun W (b : Below w.heap.size w W) => Lib.hid (keysR_any B m d (Lb.map rawC) W lB (by omega) (hr2.below b))
  rw [kys_raw] at KA KB
  have FA := fun k W (b : Below w.heap.size w W) => Lib.hid (findR_any A n c (La.map rawC) k W lA (by omega) (hr.below b))
  have FB := fun k W (b : Below w.heap.size w W) => Lib.hid (findR_any B m d (Lb.map rawC) k W lB (by omega) (hr2.below b))
  simp only [fnd_raw] at FA FB
  have aA := chk_asc ka; have aB := chk_asc kb
  have rA := chk_real ka; have rB := chk_real kb
  rw [canon_raws] at aA aB rA rB
  have AA := Lib.hid aA; have AB := Lib.hid aB; have RA := Lib.hid rA; have RB := Lib.hid rB
  have HY := Lib.hid hyes; have HNo := Lib.hid hno
  clear hr hr2 ka kb hyes hno aA aB rA rB
  go_enter Try.func27, Try.ntmps27
  go_wp2_with fail
  refine CA.out.mono ?_
  rintro r W1 ⟨rfl, b1⟩
  go_wp2_with fail
  refine (CB _ b1).out.mono ?_
  rintro r W2 ⟨rfl, b2⟩
  replace b2 := bel_trans b1 b2
  go_wp2_with fail
  refine (KA _ b2).out.mono ?_
  rintro r W3 ⟨v3, rfl, o3, b3⟩
  replace b3' := bel_trans b2 b3
  go_wp2_with fail
  refine (KB _ b3').out.mono ?_
  rintro r W4 ⟨v4, rfl, o4, b4⟩
  have b4' := bel_trans b3' b4
  obtain ⟨h3, A3, C3, rfl, r3⟩ := rowU_rd o3
  obtain ⟨h4, A4, C4, rfl, r4⟩ := rowU_rd o4
  have CM := Lib.hid (mergedR_any A3 A4 n C3 m C4 (keysC La) (keysC Lb) W4 h3 h4 (by omega) (by omega) (r3.below b4) r4)
  clear o3 o4 r3 r4 b3 b4 CA CB KA KB b1
  go_wp2_with fail
  refine CM.out.mono ?_
  rintro r W5 ⟨v5, rfl, o5, b5⟩
  have bw5 := bel_trans b4' b5
  obtain ⟨ks, hks⟩ : ∃ ks, mergeK (keysC La) (keysC Lb) = ks := ⟨_, rfl⟩
  rw [hks] at o5
  have hlen : ks.length ≤ 400 := by
    rw [← hks]
    have := mergeK_len (keysC La) (keysC Lb)
    omega
  have HKS := Lib.hid hks
  obtain ⟨h5, A5, C5, rfl, r5⟩ := rowU_rd o5
  obtain ⟨q, hq⟩ : ∃ q, ks.length = q := ⟨_, rfl⟩
  rw [hq] at hlen
  rw [hq]
  have HQL := Lib.hid hq
  have HK5 := Lib.hid r5
  clear hks o5 h5 hq r5 b5 b4' b3' b2 CM h3 h4
  go_wp2
  go_loopw [7, 8] (fun s i wr => ∃ j : Nat, j ≤ q ∧ i = .int .i64 j ∧ (∀ (u : Nat) k, u < j → ks[u]? = some k → okK La Lb k) ∧ wr.ownsRow W5.heap.size 45 5 s (thF La Lb (ks.take j)).length (flat ((thF La Lb (ks.take j)).map rawC)) ∧ Below W5.heap.size W5 wr) (fun s i _ => (q - intOf i).toNat)
  case atStart => exact ⟨0, Nat.zero_le _, rfl, fun u z h => absurd h (Nat.not_lt_zero _), World.ownsRow_nil _ _ _ _, Below.refl _ _⟩
  case round =>
    obtain ⟨j, hj, rfl, hE, hq, bel⟩ := hrel
    have HQ := Lib.hid hq; clear hq
    have HE := Lib.hid hE; clear hE
    have hfl : (thF La Lb (ks.take j)).length ≤ 400 := Nat.le_trans (thF_len _ _ _) (by rw [List.length_take]; omega)
    by_cases hlt : j < q
    · obtain ⟨k, hk⟩ := getI_lt HQL.out hlt
      obtain ⟨b1, o1, eA, k0⟩ := (HK5.out.below bel) j k hk
      subst eA
      have u0 : decide ((j : Int) < q) = true := decide_eq_true (by omega)
      have hji : (j : Int) < q := by omega
      have HT := Lib.hid (thF_take (a := La) (b := Lb) hk)
      have HK := Lib.hid hk
      have hkm : k ∈ ks := List.mem_of_getElem? hk
      rw [← HKS.out, mergeK_mem, keysC_mem, keysC_mem] at hkm
      clear hk
      have klt := World.block_lt_of_cell? _ _ k0
      have CFA := fun W b => (FA k W b)
      have CFB := fun W b => (FB k W b)
      obtain ⟨gx, hgx⟩ : ∃ gx, getC La k = gx := ⟨_, rfl⟩
      obtain ⟨gy, hgy⟩ : ∃ gy, getC Lb k = gy := ⟨_, rfl⟩
      rw [hgx] at hkm CFA
      rw [hgy] at hkm CFB
      have GX := Lib.hid hgx; have GY := Lib.hid hgy
      rw [hgx, hgy] at HT
      clear hgx hgy FA FB
      have hkm := Lib.hid hkm
      obtain ⟨rx, bx, hfx, hx⟩ := fnd_form gx
      obtain ⟨ry, bY, hfy, hy⟩ := fnd_form gy
      rw [hfx] at CFA
      rw [hfy] at CFB
      have HX := Lib.hid hx; have HYY := Lib.hid hy
      clear hfx hfy hx hy
      go_wp2_with fail
      refine (CFA _ (bel_trans bw5 bel)).out.mono ?_
      rintro r W6 ⟨rfl, b6⟩
      replace k0 := (b6.cell (p := ⟨b1, o1 + j, none⟩) klt).trans k0
      have klt6 := Nat.lt_of_lt_of_le klt b6.size
      have bel6 := bel_trans bel b6
      have HQ6 := Lib.hid (row_below HQ.out b6)
      clear HQ b6
      go_upto_region 9 with fail
      have X := Lib.hid (B5.made W6 rx)
      have f0 : (W6.alloc (.cells #[.int .u64 rx.k, .bool rx.w, .int .u64 rx.o, .bool rx.i, .int .u64 rx.n] 45)).frozen? ⟨W6.heap.size, 0, none⟩ = false := by simp
      have xs : W6.heap.size < (W6.alloc (.cells #[.int .u64 rx.k, .bool rx.w, .int .u64 rx.o, .bool rx.i, .int .u64 rx.n] 45)).heap.size := by simp
      have xlo : W5.heap.size ≤ W6.heap.size := bel6.size
      have ba := bel_alloc (Below.refl W6.heap.size W6) (.cells #[.int .u64 rx.k, .bool rx.w, .int .u64 rx.o, .bool rx.i, .int .u64 rx.n] 45)
      have bel7 := bel_trans bel6 ba
      have HQ7 := Lib.hid (row_below HQ6.out ba)
      have qne : ∀ v, W6.ownsRow W5.heap.size 45 5 v (thF La Lb (ks.take j)).length (flat ((thF La Lb (ks.take j)).map rawC)) → v.ownBlock ≠ some W6.heap.size := fun v h e => by have := (h.lt _ e).2; omega
      have QNE := Lib.hid (qne _ HQ6.out)
      replace k0 := (ba.cell (p := ⟨b1, o1 + j, none⟩) klt6).trans k0
      clear ba HQ6 bel6 klt klt6 qne
      generalize W6.alloc (.cells #[.int .u64 rx.k, .bool rx.w, .int .u64 rx.o, .bool rx.i, .int .u64 rx.n] 45) = W7 at *
      generalize W6.heap.size = xb at *
      go_wp2_with fail
      refine (CFB _ (bel_trans bw5 bel7)).out.mono ?_
      rintro r W8 ⟨rfl, b8⟩
      replace f0 := (b8.frozen (p := ⟨xb, 0, none⟩) xs).trans f0
      replace xs := Nat.lt_of_lt_of_le xs b8.size
      have bel8 := bel_trans bel7 b8
      have HQ8 := Lib.hid (row_below HQ7.out b8)
      have X := Lib.hid (X.out.below b8)
      clear HQ7 b8 k0 bel7
      go_upto_region 10 with fail
      have Y := Lib.hid (B5.made W8 ry)
      have ba := bel_alloc (Below.refl W8.heap.size W8) (.cells #[.int .u64 ry.k, .bool ry.w, .int .u64 ry.o, .bool ry.i, .int .u64 ry.n] 45)
      have bel9 := bel_trans bel8 ba
      have HQ9 := Lib.hid (row_below HQ8.out ba)
      have X := Lib.hid (X.out.below ba)
      replace f0 := (ba.frozen (p := ⟨xb, 0, none⟩) xs).trans f0
      clear ba HQ8 bel8 xs
      generalize W8.alloc (.cells #[.int .u64 ry.k, .bool ry.w, .int .u64 ry.o, .bool ry.i, .int .u64 ry.n] 45) = W9 at *
      generalize W8.heap.size = yb at *
      have x0 := X.out.c0; have x1 := X.out.c1; have x2 := X.out.c2; have x3 := X.out.c3; have x4 := X.out.c4
      have y0 := Y.out.c0; have y1 := Y.out.c1; have y2 := Y.out.c2; have y3 := Y.out.c3; have y4 := Y.out.c4
      obtain ⟨xk, xw, xo, xi, xn⟩ := rx
      obtain ⟨yk, yw, yo, yi, yn⟩ := ry
      simp only at x0 x1 x2 x3 x4 y0 y1 y2 y3 y4
      rcases HX.out with ⟨ex, rfl⟩ | ⟨x, ex, exr, rfl⟩
      · rcases HYY.out with ⟨ey, rfl⟩ | ⟨y, ey, eyr, rfl⟩
        · exact absurd hkm.out (by rw [ex, ey]; simp)
        · -- only the second plan speaks of the key
          have HN := Lib.hid (show ∀ (u : Nat) z, u < j + 1 → ks[u]? = some z → okK La Lb z from fun u z hu hz => by
            by_cases h : u < j
            · exact HE.out u z h hz
            · obtain rfl : u = j := by omega
              rw [HK.out] at hz; cases hz
              intro a b ha; rw [GX.out, ex] at ha; cases ha)
          have HT2 := Lib.hid (show thF La Lb (ks.take (j + 1)) = thF La Lb (ks.take j) ++ [y] by rw [HT.out, ex, ey]; rfl)
          have HRZ := Lib.hid eyr.symm
          have hre := real_or (RB.out y (getC_key (by rw [GY.out, ey])).2)
          rw [← eyr] at hre
          have f1 := X.out.f1; have f2 := X.out.f2; have f3 := X.out.f3; have f4 := X.out.f4
          clear ex ey eyr HX HYY
          go_upto_region 12 with fail
          have XA := Lib.hid (X.out.set5 ⟨yk, yw, yo, yi, yn⟩)
          simp only at XA
          have belA : Below W5.heap.size W5 ((((((W9.setCell ⟨xb, 0, none⟩ (.int .u64 yk)).setCell ⟨xb, 1, none⟩ (.bool yw)).setCell ⟨xb, 2, none⟩ (.int .u64 yo)).setCell ⟨xb, 3, none⟩ (.bool yi)).setCell ⟨xb, 4, none⟩ (.int .u64 yn))) := ((((bel9.setCell (p := ⟨xb, 0, none⟩) xlo _).setCell (p := ⟨xb, 1, none⟩) xlo _).setCell (p := ⟨xb, 2, none⟩) xlo _).setCell (p := ⟨xb, 3, none⟩) xlo _).setCell (p := ⟨xb, 4, none⟩) xlo _
          have HQA := Lib.hid (row_set (o := 4) (x := .int .u64 yn) (row_set (o := 3) (x := .bool yi) (row_set (o := 2) (x := .int .u64 yo) (row_set (o := 1) (x := .bool yw) (row_set (o := 0) (x := .int .u64 yk) HQ9.out QNE.out) QNE.out) QNE.out) QNE.out) QNE.out)
          clear x0 x1 x2 x3 x4 y0 y1 y2 y3 y4 f0 f1 f2 f3 f4 X Y HQ9 bel9
          generalize ((((W9.setCell ⟨xb, 0, none⟩ (.int .u64 yk)).setCell ⟨xb, 1, none⟩ (.bool yw)).setCell ⟨xb, 2, none⟩ (.int .u64 yo)).setCell ⟨xb, 3, none⟩ (.bool yi)).setCell ⟨xb, 4, none⟩ (.int .u64 yn) = WA at *
          have x0 := XA.out.c0; have x1 := XA.out.c1; have x2 := XA.out.c2; have x3 := XA.out.c3; have x4 := XA.out.c4
          simp only at x0 x1 x2 x3 x4
          cases yw with
          | true =>
            clear hre
            go_wp2_with (at_builtin; refine app3 rfl (.tmp 81) (.tmp 83) rfl _ W5.heap.size _ _ ((thF La Lb (ks.take j)).map rawC) ⟨yk, true, yo, yi, yn⟩ rfl rfl HQA.out (by omega) belA.size ?_; intro v8 w8 h1 b8 k8; have HW8 := Lib.hid h1; clear h1 k8)
            go_roundw
            case rel => exact ⟨j + 1, by omega, by go_num, HN.out, by rw [HT2.out, List.length_append, raws_snoc, HRZ.out]; exact HW8.out, belA.trans b8⟩
            case measure => simp [intOf]; omega
          | false =>
            cases yi with
            | true =>
              clear hre
              go_wp2_with (at_builtin; refine app3 rfl (.tmp 81) (.tmp 83) rfl _ W5.heap.size _ _ ((thF La Lb (ks.take j)).map rawC) ⟨yk, false, yo, true, yn⟩ rfl rfl HQA.out (by omega) belA.size ?_; intro v8 w8 h1 b8 k8; have HW8 := Lib.hid h1; clear h1 k8)
              go_roundw
              case rel => exact ⟨j + 1, by omega, by go_num, HN.out, by rw [HT2.out, List.length_append, raws_snoc, HRZ.out]; exact HW8.out, belA.trans b8⟩
              case measure => simp [intOf]; omega
            | false => rcases hre with h | h <;> cases h
      · rcases HYY.out with ⟨ey, rfl⟩ | ⟨y, ey, eyr, rfl⟩
        · -- only the first
          have HN := Lib.hid (show ∀ (u : Nat) z, u < j + 1 → ks[u]? = some z → okK La Lb z from fun u z hu hz => by
            by_cases h : u < j
            · exact HE.out u z h hz
            · obtain rfl : u = j := by omega
              rw [HK.out] at hz; cases hz
              intro a b _ hb; rw [GY.out, ey] at hb; cases hb)
          have HT2 := Lib.hid (show thF La Lb (ks.take (j + 1)) = thF La Lb (ks.take j) ++ [x] by rw [HT.out, ex, ey]; rfl)
          have HRZ := Lib.hid exr.symm
          have hre := real_or (RA.out x (getC_key (by rw [GX.out, ex])).2)
          rw [← exr] at hre
          clear ex ey exr HX HYY
          cases xw with
          | true =>
            clear hre
            go_wp2_with (at_builtin; refine app3 rfl (.tmp 81) (.tmp 83) rfl _ W5.heap.size _ _ ((thF La Lb (ks.take j)).map rawC) ⟨xk, true, xo, xi, xn⟩ rfl rfl HQ9.out (by omega) bel9.size ?_; intro v8 w8 h1 b8 k8; have HW8 := Lib.hid h1; clear h1 k8)
            go_roundw
            case rel => exact ⟨j + 1, by omega, by go_num, HN.out, by rw [HT2.out, List.length_append, raws_snoc, HRZ.out]; exact HW8.out, bel9.trans b8⟩
            case measure => simp [intOf]; omega
          | false =>
            cases xi with
            | true =>
              clear hre
              go_wp2_with (at_builtin; refine app3 rfl (.tmp 81) (.tmp 83) rfl _ W5.heap.size _ _ ((thF La Lb (ks.take j)).map rawC) ⟨xk, false, xo, true, xn⟩ rfl rfl HQ9.out (by omega) bel9.size ?_; intro v8 w8 h1 b8 k8; have HW8 := Lib.hid h1; clear h1 k8)
              go_roundw
              case rel => exact ⟨j + 1, by omega, by go_num, HN.out, by rw [HT2.out, List.length_append, raws_snoc, HRZ.out]; exact HW8.out, bel9.trans b8⟩
              case measure => simp [intOf]; omega
            | false => rcases hre with h | h <;> cases h
        · -- both
          have hKX : xk = k := by have h1 := (getC_key (by rw [GX.out, ex] : getC La k = some x)).1; have h2 := congrArg Rc.k exr; simp only [rawC] at h2; omega
          by_cases c1 : x.a = y.b
          · have c1' := raw_ab.1 c1
            rw [← exr, ← eyr] at c1'
            simp only at c1'
            have u1 : (xi != yw) = false := bne_eq c1'.1
            have u2 : (xi ^^ yw) = false := xor_eq c1'.1
            have u3 : (xi == yw) = true := beq_eq c1'.1
            have u4 : (xn != yo) = false := ibeq c1'.2
            have HN := Lib.hid (show ∀ (u : Nat) z, u < j + 1 → ks[u]? = some z → okK La Lb z from fun u z hu hz => by
              by_cases h : u < j
              · exact HE.out u z h hz
              · obtain rfl : u = j := by omega
                rw [HK.out] at hz; cases hz
                intro a b ha hb
                rw [GX.out, ex] at ha; rw [GY.out, ey] at hb
                cases ha; cases hb; exact c1)
            have f3 := X.out.f3; have f4 := X.out.f4
            obtain ⟨cc, hcc⟩ : ∃ cc : Prop, (x.b = none ∧ y.a = none) = cc := ⟨_, rfl⟩
            have HB := Lib.hid (show (xw = true ∨ yi = true) ∨ (x.b = none ∧ y.a = none ∧ xw = false ∧ yi = false) from by
              by_cases c2 : x.b = none ∧ y.a = none
              · have := raw_ba.1 c2
                rw [← exr, ← eyr] at this
                exact .inr ⟨c2.1, c2.2, this.1, this.2⟩
              · exact .inl (or_of exr.symm eyr.symm c2))
            have HJ := Lib.hid (show xw = true ∨ yi = true → thF La Lb (ks.take (j + 1)) = thF La Lb (ks.take j) ++ [⟨k, x.b, y.a⟩] from fun h => by
              have c2 : ¬ (x.b = none ∧ y.a = none) := fun c2 => by
                have := raw_ba.1 c2
                rw [← exr, ← eyr] at this
                rcases h with h | h
                · have := this.1; simp only at this; rw [h] at this; cases this
                · have := this.2; simp only at this; rw [h] at this; cases this
              rw [HT.out, ex, ey]
              simp only [jn]
              rw [if_neg c2]; rfl)
            have HJ0 := Lib.hid (show x.b = none ∧ y.a = none → thF La Lb (ks.take (j + 1)) = thF La Lb (ks.take j) from fun c2 => by
              rw [HT.out, ex, ey]
              simp only [jn]
              rw [if_pos c2]; simp)
            have HRZ := Lib.hid (show rawC ⟨k, x.b, y.a⟩ = ⟨xk, xw, xo, yi, yn⟩ by
              have e1 := congrArg Rc.w exr; have e2 := congrArg Rc.o exr; have e3 := congrArg Rc.i eyr; have e4 := congrArg Rc.n eyr
              simp only [rawC] at e1 e2 e3 e4 ⊢
              rw [hKX, e1, e2, e3, e4])
            clear c1 c1' hcc hKX ex ey exr eyr HX HYY f0
            go_wp2
            go_region
            have belA : Below W5.heap.size W5 ((W9.setCell ⟨xb, 3, none⟩ (.bool yi)).setCell ⟨xb, 4, none⟩ (.int .u64 yn)).drew := below_drewN ((bel9.setCell (p := ⟨xb, 3, none⟩) xlo _).setCell (p := ⟨xb, 4, none⟩) xlo _) 1
            have XA := Lib.hid (B5.drew (X.out.set34 yi yn))
            simp only at XA
            have HQA := Lib.hid (row_drew (row_set (o := 4) (x := .int .u64 yn) (row_set (o := 3) (x := .bool yi) HQ9.out QNE.out) QNE.out))
            clear x0 x1 x2 x3 x4 y0 y1 y2 y3 y4 f3 f4 X Y HQ9 bel9
            generalize ((W9.setCell ⟨xb, 3, none⟩ (.bool yi)).setCell ⟨xb, 4, none⟩ (.int .u64 yn)).drew = WA at *
            have x0 := XA.out.c0; have x1 := XA.out.c1; have x2 := XA.out.c2; have x3 := XA.out.c3; have x4 := XA.out.c4
            simp only at x0 x1 x2 x3 x4
            clear u1 u2 u3 u4
            cases xw with
            | true =>
              have hv : true = true ∨ yi = true := .inl rfl
              have HT2 := Lib.hid (HJ.out hv)
              clear hv HB HJ HJ0
              go_wp2_with (at_builtin; refine app3 rfl (.tmp 81) (.tmp 83) rfl _ W5.heap.size _ _ ((thF La Lb (ks.take j)).map rawC) ⟨xk, true, xo, yi, yn⟩ rfl rfl HQA.out (by omega) belA.size ?_; intro v8 w8 h1 b8 k8; have HW8 := Lib.hid h1; clear h1 k8)
              go_roundw
              case rel => exact ⟨j + 1, by omega, by go_num, HN.out, by rw [HT2.out, List.length_append, raws_snoc, HRZ.out]; exact HW8.out, belA.trans b8⟩
              case measure => simp [intOf]; omega
            | false =>
              cases yi with
              | true =>
                have hv : false = true ∨ true = true := .inr rfl
                have HT2 := Lib.hid (HJ.out hv)
                clear hv HB HJ HJ0
                go_wp2_with (at_builtin; refine app3 rfl (.tmp 81) (.tmp 83) rfl _ W5.heap.size _ _ ((thF La Lb (ks.take j)).map rawC) ⟨xk, false, xo, true, yn⟩ rfl rfl HQA.out (by omega) belA.size ?_; intro v8 w8 h1 b8 k8; have HW8 := Lib.hid h1; clear h1 k8)
                go_roundw
                case rel => exact ⟨j + 1, by omega, by go_num, HN.out, by rw [HT2.out, List.length_append, raws_snoc, HRZ.out]; exact HW8.out, belA.trans b8⟩
                case measure => simp [intOf]; omega
              | false =>
                have hv : x.b = none ∧ y.a = none := by
                  rcases HB.out with (h | h) | h
                  · cases h
                  · cases h
                  · exact ⟨h.1, h.2.1⟩
                have HT2 := Lib.hid (HJ0.out hv)
                clear hv HB HJ HJ0
                go_wp2
                go_roundw
                case rel => exact ⟨j + 1, by omega, by go_num, HN.out, by rw [HT2.out]; exact HQA.out, belA⟩
                case measure => simp [intOf]; omega
          · have hno : ¬ okT La Lb := fun h => c1 (h k x y (by rw [GX.out, ex]) (by rw [GY.out, ey]))
            have E0 := Lib.hid (HNo.out hno)
            by_cases c3 : xi = yw
            · have c4 : ¬ xn = yo := fun h => c1 (raw_ab.2 (by rw [← exr, ← eyr]; exact ⟨c3, h⟩))
              have u1 : (xi != yw) = false := bne_eq c3
              have u2 : (xi ^^ yw) = false := xor_eq c3
              have u3 : (xi == yw) = true := beq_eq c3
              have u4 : (xn != yo) = true := ibne c4
              clear c1 c3 c4 hno hKX ex ey exr eyr HX HYY
              go_wp2
              go_ret2
              rw [E0.out.1, E0.out.2]
              exact APost.err (bel_trans bw5 bel9)
            · have u1 : (xi != yw) = true := bne_of c3
              have u2 : (xi ^^ yw) = true := xor_ne c3
              have u3 : (xi == yw) = false := beq_of c3
              clear c1 c3 hno hKX ex ey exr eyr HX HYY
              go_wp2
              go_ret2
              rw [E0.out.1, E0.out.2]
              exact APost.err (bel_trans bw5 bel9)
    · obtain rfl : j = q := by omega
      have u0 : decide ((j : Int) < j) = false := decide_eq_false (by omega)
      have HT := Lib.hid (show ks.take j = ks from List.take_of_length_le (by rw [HQL.out]; omega))
      have hok : okT La Lb := okT_all fun k hk => by
        rw [HKS.out] at hk
        obtain ⟨u, hu⟩ := List.mem_iff_getElem?.1 hk
        exact HE.out u k (by have := (List.getElem?_eq_some_iff.1 hu).1; have := HQL.out; omega) hu
      have E0 := Lib.hid (HY.out hok)
      clear hok
      go_wp2
      go_ret2
      rw [E0.out.1, E0.out.2]
      refine ⟨_, rfl, ?_, bel_trans bw5 bel⟩
      have h := HQ.out
      rw [HT.out, ← HKS.out] at h
      rw [List.length_map]
      exact row_base h bw5.size
end Pl
end Go.Proofs.Ytbdllakbkienoaa
