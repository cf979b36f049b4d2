/- Pools of free towers as mathematics: stacks of links with tags, operations that take and give back step by step, and what holds of them whatever the interleaving is. No conditions beside those of each lemma. (Pools from pp on, links from pp + 6 on; n towers, ht their heights from 0 on; step counters 0 idle, 4 head, 5 link, 6 take, 7 store link, 8 give.) -/
import Derived.Test.YtjcbjbhlclajnaaWdM
namespace Go.Proofs.Ytjcbjbhlclajnaa
set_option linter.unusedVariables false
set_option linter.unusedSimpArgs false
namespace Po
open Wd
/-- what is known of towers: the memory, which are out, which are being given back, how often they were given back -/
structure Pm where
  M : Wm
  tk : Nat → Bool
  gv : Nat → Bool
  gn : Nat → Nat
/-- an operation (tower 0: it takes one) -/
structure Op where
  th : Nat
  h : Nat
  tw : Nat
  tr : Nat
  pc : Nat
  hd : Int
  lk : Int
  got : Int
  fl : Nat
  e : Int
/-- a head with a tag and a tower -/
def wd (s x : Nat) : Int := (x : Int) + 65536 * (s : Int)
/-- what packing makes of any numbers -/
def topW (tag n : Int) : Int := if 0 ≤ tag ∧ tag ≤ 1099511627775 ∧ 0 ≤ n ∧ n ≤ 1024 then n + 65536 * tag else 0
def set {α : Type} (f : Nat → α) (i : Nat) (v : α) : Nat → α := fun j => if j = i then v else f j
theorem set_same {α : Type} (f : Nat → α) (i : Nat) (v : α) : set f i v i = v := if_pos rfl
theorem set_other {α : Type} {f : Nat → α} {i j : Nat} {v : α} (h : j ≠ i) : set f i v j = f j := if_neg h
def hA (pp h : Nat) : Int := ((pp + h : Nat) : Int)
def lA (pp t : Nat) : Int := ((pp + 5 + t : Nat) : Int)
/-- a step -/
def step (pp : Nat) (S : Pm) (r : Op) : Pm × Op :=
  if r.pc = 4 then
    (⟨S.M.load r.th (hA pp r.h), S.tk, S.gv, S.gn⟩, ⟨r.th, r.h, r.tw, r.tr, if 0 < r.tw then 7 else if S.M.get (hA pp r.h) % 65536 = 0 then 0 else 5, S.M.get (hA pp r.h), r.lk, r.got, r.fl, if r.tw = 0 ∧ S.M.get (hA pp r.h) % 65536 = 0 then 6 else r.e⟩)
  else if r.pc = 5 then
    (⟨S.M.load r.th (lA pp (r.hd % 65536).toNat), S.tk, S.gv, S.gn⟩, ⟨r.th, r.h, r.tw, r.tr, 6, r.hd, S.M.get (lA pp (r.hd % 65536).toNat), r.got, r.fl, r.e⟩)
  else if r.pc = 7 then
    (⟨S.M.stor r.th (lA pp r.tw) (r.hd % 65536), S.tk, S.gv, S.gn⟩, ⟨r.th, r.h, r.tw, r.tr, 8, r.hd, r.lk, r.got, r.fl, r.e⟩)
  else if r.pc = 6 then
    if S.M.get (hA pp r.h) = r.hd then
      (⟨S.M.cas r.th (hA pp r.h) r.hd (topW (r.hd / 65536 + 1) r.lk), set S.tk (r.hd % 65536).toNat true, S.gv, S.gn⟩, ⟨r.th, r.h, r.tw, r.tr, 0, r.hd, r.lk, r.hd % 65536, r.fl, r.e⟩)
    else
      (⟨S.M.cas r.th (hA pp r.h) r.hd (topW (r.hd / 65536 + 1) r.lk), S.tk, S.gv, S.gn⟩, ⟨r.th, r.h, r.tw, r.tr, if r.fl + 1 = r.tr then 0 else 4, r.hd, r.lk, r.got, r.fl + 1, if r.fl + 1 = r.tr then 11 else r.e⟩)
  else if r.pc = 8 then
    if S.M.get (hA pp r.h) = r.hd then
      (⟨S.M.cas r.th (hA pp r.h) r.hd (topW (r.hd / 65536 + 1) r.tw), set S.tk r.tw false, set S.gv r.tw false, set S.gn r.tw (S.gn r.tw + 1)⟩, ⟨r.th, r.h, r.tw, r.tr, 0, r.hd, r.lk, r.got, r.fl, r.e⟩)
    else
      (⟨S.M.cas r.th (hA pp r.h) r.hd (topW (r.hd / 65536 + 1) r.tw), S.tk, S.gv, S.gn⟩, ⟨r.th, r.h, r.tw, r.tr, 4, r.hd, r.lk, r.got, r.fl, r.e⟩)
  else (S, r)
/-! ### words -/
theorem get_nat (M : Wm) (j : Nat) : M.get (j : Nat) = M.W.getD j 0 := by rw [Wm.get, Int.toNat_natCast]
theorem get_put {M : Wm} {t k v : Int} {s : Bool} {a b : Nat} (ha : a < M.W.length) : (M.put t (a : Nat) k v s).get (b : Nat) = if b = a then v else M.get (b : Nat) := by
  rw [get_nat, get_nat]
  show (M.W.set (Int.toNat (a : Nat)) v).getD b 0 = _
  rw [Int.toNat_natCast, List.getD_eq_getElem?_getD, List.getD_eq_getElem?_getD, List.getElem?_set]
  by_cases e : b = a
  · subst e; simp [ha]
  · rw [if_neg (fun h => e h.symm), if_neg e]
theorem load_W (M : Wm) (t a : Int) : (M.load t a).W = M.W := Wm.set_get M a
theorem get_of_W {M M' : Wm} (h : M'.W = M.W) (a : Int) : M'.get a = M.get a := by unfold Wm.get; rw [h]
theorem cas_no {M : Wm} {t a o v : Int} (h : ¬ M.get a = o) : (M.cas t a o v).W = M.W := by
  unfold Wm.cas; rw [if_neg h]; exact Wm.set_get M a
theorem cas_yes {M : Wm} {t o v : Int} {a b : Nat} (h : M.get (a : Nat) = o) (ha : a < M.W.length) : (M.cas t (a : Nat) o v).get (b : Nat) = if b = a then v else M.get (b : Nat) := by
  unfold Wm.cas; rw [if_pos h]; exact get_put ha
theorem cas_len (M : Wm) (t a o v : Int) : (M.cas t a o v).W.length = M.W.length := by unfold Wm.cas; split <;> exact Wm.len_put ..
theorem wd_mod {s x : Nat} (h : x < 65536) : wd s x % 65536 = x := by unfold wd; omega
theorem wd_div {s x : Nat} (h : x < 65536) : wd s x / 65536 = s := by unfold wd; omega
theorem wd_inj {s x s' x' : Nat} (h : x < 65536) (h' : x' < 65536) (e : wd s x = wd s' x') : s = s' ∧ x = x' := by unfold wd at e; omega
theorem topW_wd {s y : Nat} (hs : s < 100001) (hy : y ≤ 1024) : topW ((s : Int) + 1) (y : Int) = wd (s + 1) y := by
  unfold topW wd
  rw [if_pos ⟨by omega, by omega, by omega, by omega⟩]
  omega
/-! ### stacks of links -/
def Ch (f : Nat → Int) : List Nat → Prop
  | [] => True
  | x :: l => f x = ((l.headD 0 : Nat) : Int) ∧ Ch f l
theorem Ch.congr {f g : Nat → Int} : ∀ {l : List Nat}, (∀ x, x ∈ l → f x = g x) → Ch f l → Ch g l
  | [], _, _ => trivial
  | x :: l, h, hc => ⟨(h x (List.mem_cons_self ..)).symm.trans hc.1, Ch.congr (fun y hy => h y (List.mem_cons_of_mem _ hy)) hc.2⟩
/-- the memory holds the stacks, the heads' tags are sw -/
structure In (pp n : Nat) (ht : Nat → Nat) (S : Pm) (stk : Nat → List Nat) (sw : Nat → Nat) : Prop where
  len : pp + 6 + n ≤ S.M.W.length
  n1 : n ≤ 1024
  hd : ∀ h, h < 6 → S.M.get (hA pp h) = wd (sw h) ((stk h).headD 0)
  ch : ∀ h, h < 6 → Ch (fun t => S.M.get (lA pp t)) (stk h)
  lb : ∀ t, 1 ≤ t → t ≤ n → ∃ x : Nat, S.M.get (lA pp t) = (x : Int) ∧ x ≤ n
  mem : ∀ h, h < 6 → ∀ t, t ∈ stk h → 1 ≤ t ∧ t ≤ n ∧ ht t = h
  nd : ∀ h, h < 6 → (stk h).Nodup
  tk : ∀ t, 1 ≤ t → t ≤ n → ht t < 6 ∧ (S.tk t = true ↔ t ∉ stk (ht t))
/-- a head that was loaded: its tag and its tower; as long as the tag stands, the tower is the top -/
def Seen (n : Nat) (stk : Nat → List Nat) (sw : Nat → Nat) (h : Nat) (w : Int) (s x : Nat) : Prop := w = wd s x ∧ x ≤ n ∧ s ≤ sw h ∧ (s = sw h → x = (stk h).headD 0)
structure Ok (pp n : Nat) (ht : Nat → Nat) (S : Pm) (stk : Nat → List Nat) (sw : Nat → Nat) (r : Op) : Prop where
  h6 : r.h < 6
  th : r.th < 64
  g : 0 < r.tw → r.pc ≠ 0 → r.tw ≤ n ∧ ht r.tw = r.h ∧ S.tk r.tw = true ∧ S.gv r.tw = true
  p : r.pc = 0 ∨ r.pc = 4 ∨ (r.pc = 5 ∧ r.tw = 0 ∧ ∃ s x, Seen n stk sw r.h r.hd s x ∧ 1 ≤ x) ∨
    (r.pc = 6 ∧ r.tw = 0 ∧ ∃ s x y : Nat, Seen n stk sw r.h r.hd s x ∧ 1 ≤ x ∧ r.lk = (y : Int) ∧ y ≤ n ∧ (s = sw r.h → y = (stk r.h).tail.headD 0)) ∨
    (r.pc = 7 ∧ 0 < r.tw ∧ ∃ s x, Seen n stk sw r.h r.hd s x) ∨
    (r.pc = 8 ∧ 0 < r.tw ∧ ∃ s x : Nat, Seen n stk sw r.h r.hd s x ∧ S.M.get (lA pp r.tw) = (x : Int))
def upd (X : Nat → Option Op) (i : Nat) (r : Op) : Nat → Option Op := fun j => if j = i then some r else X j
theorem upd_same (X : Nat → Option Op) (i : Nat) (r : Op) : upd X i r i = some r := if_pos rfl
theorem upd_other {X : Nat → Option Op} {i j : Nat} {r : Op} (h : j ≠ i) : upd X i r j = X j := if_neg h
/-- all operations X are sound; no tower is given back by two of them -/
structure All (pp n : Nat) (ht : Nat → Nat) (S : Pm) (stk : Nat → List Nat) (sw : Nat → Nat) (X : Nat → Option Op) (B : Nat) : Prop where
  i : In pp n ht S stk sw
  o : ∀ i r, X i = some r → Ok pp n ht S stk sw r
  un : ∀ i j r s, X i = some r → X j = some s → 0 < r.tw → r.tw = s.tw → r.pc ≠ 0 → s.pc ≠ 0 → i = j
  gq : ∀ t, S.gv t = true → ∃ i r, X i = some r ∧ r.tw = t ∧ r.pc ≠ 0 ∧ 0 < t
  b : ∀ h, sw h ≤ B
section
variable {pp n B : Nat} {ht : Nat → Nat} {S : Pm} {stk : Nat → List Nat} {sw : Nat → Nat} {X : Nat → Option Op} {i : Nat} {r : Op}
theorem In.congr (h : In pp n ht S stk sw) {M : Wm} {gv : Nat → Bool} {gn : Nat → Nat} (hW : M.W = S.M.W) : In pp n ht ⟨M, S.tk, gv, gn⟩ stk sw :=
  ⟨by rw [hW]; exact h.len, h.n1, fun k hk => (get_of_W hW _).trans (h.hd k hk), fun k hk => (h.ch k hk).congr fun x _ => (get_of_W hW _).symm, fun t h1 h2 => by obtain ⟨x, e, hx⟩ := h.lb t h1 h2; exact ⟨x, (get_of_W hW _).trans e, hx⟩, h.mem, h.nd, h.tk⟩
theorem Ok.congr {r : Op} (h : Ok pp n ht S stk sw r) {M : Wm} {gn : Nat → Nat} (hW : M.W = S.M.W) : Ok pp n ht ⟨M, S.tk, S.gv, gn⟩ stk sw r :=
  ⟨h.h6, h.th, h.g, by
    rcases h.p with h | h | h | h | h | ⟨h1, h2, s, x, h3, h4⟩
    · exact .inl h
    · exact .inr (.inl h)
    · exact .inr (.inr (.inl h))
    · exact .inr (.inr (.inr (.inl h)))
    · exact .inr (.inr (.inr (.inr (.inl h))))
    · exact .inr (.inr (.inr (.inr (.inr ⟨h1, h2, s, x, h3, (get_of_W hW _).trans h4⟩))))⟩
theorem In.head_le (h : In pp n ht S stk sw) {k : Nat} (hk : k < 6) : (stk k).headD 0 ≤ n := by
  cases e : stk k with
  | nil => exact Nat.zero_le _
  | cons x l => have := h.mem k hk x (by rw [e]; exact List.mem_cons_self ..); exact this.2.1
/-- the words are as they were: only the operation at i changed -/
theorem All.same (h : All pp n ht S stk sw X B) (hx : X i = some r) {M : Wm} (hW : M.W = S.M.W) {r' : Op} (hr : Ok pp n ht S stk sw r') (ht' : r'.tw = r.tw) (hp : r.pc ≠ 0) (hp' : r'.pc ≠ 0 ∨ r.tw = 0) : All pp n ht ⟨M, S.tk, S.gv, S.gn⟩ stk sw (upd X i r') B := by
  refine ⟨h.i.congr hW, fun j s hj => ?_, fun j k s u hj hk h0 he h1 h2 => ?_, fun t hg => ?_, h.b⟩
  · by_cases e : j = i
    · subst e; rw [upd_same] at hj; cases hj; exact hr.congr hW
    · rw [upd_other e] at hj; exact (h.o j s hj).congr hW
  · by_cases e : j = i
    · subst e
      rw [upd_same] at hj; cases hj
      by_cases e2 : k = j
      · exact e2.symm
      · rw [upd_other e2] at hk
        exact h.un j k r u hx hk (by omega) (by omega) hp h2
    · rw [upd_other e] at hj
      by_cases e2 : k = i
      · subst e2
        rw [upd_same] at hk; cases hk
        exact h.un j k s r hj hx h0 (by omega) h1 hp
      · rw [upd_other e2] at hk
        exact h.un j k s u hj hk h0 he h1 h2
  · obtain ⟨j, s, h1, h2, h3, h4⟩ := h.gq t hg
    by_cases e : j = i
    · subst e
      rw [hx] at h1; cases h1
      exact ⟨j, r', upd_same .., ht'.trans h2, by rcases hp' with h5 | h5 <;> omega, h4⟩
    · exact ⟨j, s, (upd_other e).trans h1, h2, h3, h4⟩
/-- the head is loaded -/
theorem All.step4 (h : All pp n ht S stk sw X B) (hx : X i = some r) (hp : r.pc = 4) : All pp n ht (step pp S r).1 stk sw (upd X i (step pp S r).2) B ∧ Seen n stk sw r.h (step pp S r).2.hd (sw r.h) ((stk r.h).headD 0) ∧
    (r.tw = 0 → ((step pp S r).2.pc = 0 ↔ stk r.h = []) ∧ (stk r.h = [] → (step pp S r).2.e = 6)) := by
  have hr := h.o i r hx
  have hh := h.i.hd r.h hr.h6
  have hn := h.i.head_le hr.h6
  have n1 := h.i.n1
  have hs : Seen n stk sw r.h (wd (sw r.h) ((stk r.h).headD 0)) (sw r.h) ((stk r.h).headD 0) := ⟨rfl, hn, Nat.le_refl _, fun _ => rfl⟩
  have hm : wd (sw r.h) ((stk r.h).headD 0) % 65536 = (((stk r.h).headD 0 : Nat) : Int) := wd_mod (by omega)
  have hemp : (stk r.h).headD 0 = 0 ↔ stk r.h = [] := by
    cases e : stk r.h with
    | nil => simp
    | cons x l => have := (h.i.mem r.h hr.h6 x (by rw [e]; exact List.mem_cons_self ..)).1; simp; omega
  unfold step
  rw [if_pos hp, hh, hm]
  refine ⟨h.same hx (load_W ..) ⟨hr.h6, hr.th, fun h0 _ => hr.g h0 (by omega), ?_⟩ rfl (by omega) ?_, hs, fun h0 => ?_⟩
  · by_cases h0 : 0 < r.tw
    · simp only [if_pos h0]
      exact .inr (.inr (.inr (.inr (.inl ⟨trivial, h0, _, _, hs⟩))))
    · simp only [if_neg h0]
      by_cases h1 : (((stk r.h).headD 0 : Nat) : Int) = 0
      · simp only [if_pos h1]; exact .inl trivial
      · simp only [if_neg h1]
        exact .inr (.inr (.inl ⟨trivial, by omega, _, _, hs, by omega⟩))
  · by_cases h0 : 0 < r.tw
    · left; simp only [if_pos h0]; omega
    · right; omega
  · have h1 : ¬ 0 < r.tw := by omega
    simp only [if_neg h1]
    by_cases h2 : (((stk r.h).headD 0 : Nat) : Int) = 0
    · simp only [if_pos h2]
      exact ⟨⟨fun _ => hemp.1 (by omega), fun _ => trivial⟩, fun _ => if_pos ⟨h0, h2⟩⟩
    · simp only [if_neg h2]
      exact ⟨⟨fun e => by omega, fun e => absurd (hemp.2 e) (by omega)⟩, fun e => absurd (hemp.2 e) (by omega)⟩
/-- a link is loaded -/
theorem All.step5 (h : All pp n ht S stk sw X B) (hx : X i = some r) (hp : r.pc = 5) : All pp n ht (step pp S r).1 stk sw (upd X i (step pp S r).2) B ∧ (step pp S r).2.pc = 6 ∧ (step pp S r).2.hd = r.hd ∧ (step pp S r).2.tw = r.tw ∧ (step pp S r).2.h = r.h := by
  have hr := h.o i r hx
  have n1 := h.i.n1
  obtain ⟨_, h0, s, x, hs, hx1⟩ : r.pc = 5 ∧ r.tw = 0 ∧ ∃ s x, Seen n stk sw r.h r.hd s x ∧ 1 ≤ x := by
    rcases hr.p with e | e | e | e | e | e
    · omega
    · omega
    · exact e
    · omega
    · omega
    · omega
  have hm : (r.hd % 65536).toNat = x := by rw [hs.1, wd_mod (by have := hs.2.1; omega)]; rfl
  obtain ⟨y, hy, hyn⟩ := h.i.lb x hx1 hs.2.1
  unfold step
  rw [if_neg (by omega), if_pos hp, hm, hy]
  refine ⟨h.same hx (load_W ..) ⟨hr.h6, hr.th, fun h1 _ => by simp only at h1; omega, .inr (.inr (.inr (.inl ⟨rfl, h0, s, x, y, hs, hx1, rfl, hyn, fun e => ?_⟩)))⟩ rfl (by omega) (.inr h0), rfl, rfl, rfl, rfl⟩
  have hc := h.i.ch r.h hr.h6
  have ht := hs.2.2.2 e
  cases el : stk r.h with
  | nil => rw [el] at ht; simp at ht; omega
  | cons z l =>
    rw [el] at hc ht
    simp only [List.headD_cons] at ht
    subst ht
    have := hc.1
    simp only at this
    rw [hy] at this
    simp only [List.tail_cons]
    omega
/-- the words of the links are as they were but that of a tower that is out -/
theorem All.step7 (h : All pp n ht S stk sw X B) (hx : X i = some r) (hp : r.pc = 7) : All pp n ht (step pp S r).1 stk sw (upd X i (step pp S r).2) B ∧ (step pp S r).2.pc = 8 ∧ (step pp S r).2.hd = r.hd ∧ (step pp S r).2.tw = r.tw ∧ (step pp S r).2.h = r.h := by
  have hr := h.o i r hx
  have n1 := h.i.n1
  obtain ⟨_, h0, s, x, hs⟩ : r.pc = 7 ∧ 0 < r.tw ∧ ∃ s x, Seen n stk sw r.h r.hd s x := by
    rcases hr.p with e | e | e | e | e | e
    · omega
    · omega
    · omega
    · omega
    · exact e
    · omega
  obtain ⟨g1, g2, g3, g4⟩ := hr.g h0 (by omega)
  have hm : r.hd % 65536 = (x : Int) := by rw [hs.1, wd_mod (by have := hs.2.1; omega)]
  have hlen := h.i.len
  have hout : r.tw ∉ stk (ht r.tw) := ((h.i.tk r.tw h0 g1).2).1 g3
  have get : ∀ b : Nat, (S.M.stor r.th (lA pp r.tw) (x : Int)).get (b : Nat) = if b = pp + 5 + r.tw then (x : Int) else S.M.get (b : Nat) := fun b => get_put (by omega)
  have nin : ∀ k, k < 6 → ∀ t, t ∈ stk k → t ≠ r.tw := fun k hk t hm e => by
    subst e
    have := (h.i.mem k hk _ hm).2.2
    rw [this] at hout
    exact hout hm
  unfold step
  rw [if_neg (by omega), if_neg (by omega), if_pos hp, hm]
  have hI : In pp n ht ⟨S.M.stor r.th (lA pp r.tw) (x : Int), S.tk, S.gv, S.gn⟩ stk sw := by
    refine ⟨by rw [show (S.M.stor r.th (lA pp r.tw) (x : Int)).W.length = S.M.W.length from Wm.len_put ..]; exact hlen, n1, fun k hk => ?_, fun k hk => (h.i.ch k hk).congr fun t ht => ?_, fun t t1 t2 => ?_, h.i.mem, h.i.nd, h.i.tk⟩
    · show (S.M.stor r.th (lA pp r.tw) (x : Int)).get ((pp + k : Nat) : Int) = _
      rw [get, if_neg (by omega)]; exact h.i.hd k hk
    · show _ = (S.M.stor r.th (lA pp r.tw) (x : Int)).get ((pp + 5 + t : Nat) : Int)
      rw [get, if_neg (by have := nin k hk t ht; omega)]; rfl
    · show ∃ y : Nat, (S.M.stor r.th (lA pp r.tw) (x : Int)).get ((pp + 5 + t : Nat) : Int) = _ ∧ _
      rw [get]
      by_cases e : t = r.tw
      · subst e; rw [if_pos rfl]; exact ⟨x, rfl, hs.2.1⟩
      · rw [if_neg (by omega)]; exact h.i.lb t t1 t2
  have own : ∀ j s', X j = some s' → j ≠ i → s'.pc = 8 → 0 < s'.tw → s'.tw ≠ r.tw := fun j s' hj hne hp8 h0' e => hne (h.un j i s' r hj hx h0' e (by omega) (by omega))
  refine ⟨⟨hI, fun j u hj => ?_, fun j k u v hj hk h1 he h2 h3 => ?_, fun t hg => ?_, h.b⟩, rfl, rfl, rfl, rfl⟩
  · by_cases e : j = i
    · subst e
      rw [upd_same] at hj; cases hj
      refine ⟨hr.h6, hr.th, fun _ _ => hr.g h0 (by omega), .inr (.inr (.inr (.inr (.inr ⟨rfl, h0, s, x, hs, ?_⟩))))⟩
      show (S.M.stor r.th (lA pp r.tw) (x : Int)).get ((pp + 5 + r.tw : Nat) : Int) = _
      rw [get, if_pos rfl]
    · rw [upd_other e] at hj
      have hu := h.o j u hj
      refine ⟨hu.h6, hu.th, hu.g, ?_⟩
      rcases hu.p with q | q | q | q | q | ⟨q1, q2, s', x', q3, q4⟩
      · exact .inl q
      · exact .inr (.inl q)
      · exact .inr (.inr (.inl q))
      · exact .inr (.inr (.inr (.inl q)))
      · exact .inr (.inr (.inr (.inr (.inl q))))
      · refine .inr (.inr (.inr (.inr (.inr ⟨q1, q2, s', x', q3, ?_⟩))))
        show (S.M.stor r.th (lA pp r.tw) (x : Int)).get ((pp + 5 + u.tw : Nat) : Int) = _
        rw [get, if_neg (by have := own j u hj e q1 q2; omega)]; exact q4
  · by_cases e : j = i
    · subst e
      rw [upd_same] at hj; cases hj
      by_cases e2 : k = j
      · exact e2.symm
      · rw [upd_other e2] at hk
        exact h.un j k r v hx hk h0 he (by omega) h3
    · rw [upd_other e] at hj
      by_cases e2 : k = i
      · subst e2
        rw [upd_same] at hk; cases hk
        exact h.un j k u r hj hx h1 he h2 (by omega)
      · rw [upd_other e2] at hk
        exact h.un j k u v hj hk h1 he h2 h3
  · obtain ⟨j, u, q1, q2, q3, q4⟩ := h.gq t hg
    by_cases e : j = i
    · subst e
      rw [hx] at q1; cases q1
      exact ⟨j, _, upd_same .., q2, by simp, q4⟩
    · exact ⟨j, u, (upd_other e).trans q1, q2, q3, q4⟩
theorem Seen.swap {k : Nat} {w : Int} {s x : Nat} (h : Seen n stk sw k w s x) (q : Nat) (l : List Nat) : Seen n (set stk q l) (set sw q (sw q + 1)) k w s x ∧ (k = q → ¬ s = set sw q (sw q + 1) k) := by
  obtain ⟨h1, h2, h3, h4⟩ := h
  by_cases e : k = q
  · subst e
    refine ⟨⟨h1, h2, by rw [set_same]; omega, fun e => by rw [set_same] at e; omega⟩, fun _ => by rw [set_same]; omega⟩
  · exact ⟨⟨h1, h2, by rw [set_other e]; exact h3, fun e2 => by rw [set_other e] at e2 ⊢; exact h4 e2⟩, fun e2 => absurd e2 e⟩
theorem Ok.swap {u : Op} (hu : Ok pp n ht S stk sw u) {M : Wm} {tk gv : Nat → Bool} {gn : Nat → Nat} (q : Nat) (l : List Nat) (hm : ∀ t, 0 < t → M.get (lA pp t) = S.M.get (lA pp t)) (hg : 0 < u.tw → u.pc ≠ 0 → tk u.tw = true ∧ gv u.tw = true) : Ok pp n ht ⟨M, tk, gv, gn⟩ (set stk q l) (set sw q (sw q + 1)) u := by
  refine ⟨hu.h6, hu.th, fun h1 h2 => ⟨(hu.g h1 h2).1, (hu.g h1 h2).2.1, hg h1 h2⟩, ?_⟩
  rcases hu.p with p | p | ⟨p, p2, s, x, p3, p4⟩ | ⟨p, p2, s, x, y, p3, p4, p5, p6, p7⟩ | ⟨p, p2, s, x, p3⟩ | ⟨p, p2, s, x, p3, p4⟩
  · exact .inl p
  · exact .inr (.inl p)
  · exact .inr (.inr (.inl ⟨p, p2, s, x, (p3.swap q l).1, p4⟩))
  · refine .inr (.inr (.inr (.inl ⟨p, p2, s, x, y, (p3.swap q l).1, p4, p5, p6, fun e => ?_⟩)))
    by_cases e2 : u.h = q
    · exact absurd e ((p3.swap q l).2 e2)
    · rw [set_other e2] at e ⊢; exact p7 e
  · exact .inr (.inr (.inr (.inr (.inl ⟨p, p2, s, x, (p3.swap q l).1⟩))))
  · exact .inr (.inr (.inr (.inr (.inr ⟨p, p2, s, x, (p3.swap q l).1, (hm _ p2).trans p4⟩))))
/-- the head is what was loaded exactly if nothing was swapped since -/
theorem In.eq_iff (h : In pp n ht S stk sw) {k : Nat} (hk : k < 6) {w : Int} {s x : Nat} (hs : Seen n stk sw k w s x) : S.M.get (hA pp k) = w ↔ s = sw k := by
  have n1 := h.n1
  have h1 := h.hd k hk
  have h2 := h.head_le hk
  obtain ⟨e1, e2, e3, e4⟩ := hs
  constructor
  · intro e
    rw [h1, e1] at e
    exact (wd_inj (by omega) (by omega) e).1.symm
  · intro e
    rw [h1, e1, e4 e, e]
/-- what a swap of the head k makes of heads and links -/
theorem In.cas (h : In pp n ht S stk sw) {k : Nat} (hk : k < 6) {t o v : Int} (he : S.M.get (hA pp k) = o) : (∀ j, j < 6 → (S.M.cas t (hA pp k) o v).get (hA pp j) = if j = k then v else S.M.get (hA pp j)) ∧ (∀ j, (S.M.cas t (hA pp k) o v).get (lA pp j) = if 5 + j = k then v else S.M.get (lA pp j)) := by
  have hl := h.len
  refine ⟨fun j hj => ?_, fun j => ?_⟩
  · unfold hA at he ⊢
    rw [cas_yes he (by omega)]
    by_cases e : j = k
    · rw [if_pos (by omega), if_pos e]
    · rw [if_neg (by omega), if_neg e]
  · unfold hA at he ⊢
    unfold lA
    rw [cas_yes he (by omega)]
    by_cases e : 5 + j = k
    · rw [if_pos (by omega), if_pos e]
    · rw [if_neg (by omega), if_neg e]
/-- a tower is taken -/
theorem All.step6 (h : All pp n ht S stk sw X B) (hx : X i = some r) (hp : r.pc = 6) (hB : B ≤ 100000) : ∃ s x : Nat, Seen n stk sw r.h r.hd s x ∧
    (s = sw r.h → (∃ rest, stk r.h = x :: rest ∧ All pp n ht (step pp S r).1 (set stk r.h rest) (set sw r.h (sw r.h + 1)) (upd X i (step pp S r).2) (B + 1)) ∧ (step pp S r).2.pc = 0 ∧ (step pp S r).2.got = (x : Int) ∧ (step pp S r).2.e = r.e ∧ (step pp S r).2.fl = r.fl ∧ (step pp S r).1.tk = set S.tk x true ∧ (step pp S r).1.gv = S.gv ∧ (step pp S r).1.gn = S.gn) ∧
    (¬ s = sw r.h → All pp n ht (step pp S r).1 stk sw (upd X i (step pp S r).2) B ∧ (step pp S r).2.pc = (if r.fl + 1 = r.tr then 0 else 4) ∧ (step pp S r).1.tk = S.tk ∧ (step pp S r).1.gv = S.gv ∧ (step pp S r).1.gn = S.gn) := by
  have hr := h.o i r hx
  have n1 := h.i.n1
  obtain ⟨_, h0, s, x, y, hs, hx1, hy, hyn, hyt⟩ : r.pc = 6 ∧ r.tw = 0 ∧ ∃ s x y : Nat, Seen n stk sw r.h r.hd s x ∧ 1 ≤ x ∧ r.lk = (y : Int) ∧ y ≤ n ∧ (s = sw r.h → y = (stk r.h).tail.headD 0) := by
    rcases hr.p with e | e | e | e | e | e
    · omega
    · omega
    · omega
    · exact e
    · omega
    · omega
  have hiff := h.i.eq_iff hr.h6 hs
  have hsB := h.b r.h
  have hxn := hs.2.1
  have hm : r.hd % 65536 = (x : Int) := by rw [hs.1, wd_mod (by omega)]
  have hd : r.hd / 65536 = (s : Int) := by rw [hs.1, wd_div (by omega)]
  have htp : topW (r.hd / 65536 + 1) r.lk = wd (s + 1) y := by rw [hd, hy]; exact topW_wd (by have := hs.2.2.1; omega) (by omega)
  refine ⟨s, x, hs, fun e => ?_, fun e => ?_⟩
  · have he := hiff.2 e
    unfold step
    rw [if_neg (by omega), if_neg (by omega), if_neg (by omega), if_pos hp, if_pos he, htp, hm, Int.toNat_natCast]
    have hxt := hs.2.2.2 e
    have hyt := hyt e
    cases el : stk r.h with
    | nil => rw [el] at hxt; simp at hxt; omega
    | cons z rest =>
      rw [el] at hxt hyt
      simp only [List.headD_cons, List.tail_cons] at hxt hyt
      subst hxt
      obtain ⟨c1, c2⟩ := h.i.cas hr.h6 (t := r.th) (v := wd (s + 1) y) he
      have hch := h.i.ch r.h hr.h6
      have hnd := h.i.nd r.h hr.h6
      rw [el] at hch hnd
      have hlk : ∀ t, 1 ≤ t → (S.M.cas r.th (hA pp r.h) r.hd (wd (s + 1) y)).get (lA pp t) = S.M.get (lA pp t) := fun t ht => by rw [c2, if_neg (by have := hr.h6; omega)]
      refine ⟨⟨rest, rfl, ⟨⟨by rw [cas_len]; exact h.i.len, n1, fun k hk => ?_, fun k hk => ?_, fun t t1 t2 => ?_, fun k hk t ht' => ?_, fun k hk => ?_, fun t t1 t2 => ?_⟩, fun j u hj => ?_, fun j k u v hj hk q1 q2 q3 q4 => ?_, fun t hg => ?_, fun k => ?_⟩⟩, rfl, rfl, rfl, rfl, rfl, rfl, rfl⟩
      · show (S.M.cas r.th (hA pp r.h) r.hd (wd (s + 1) y)).get (hA pp k) = _
        rw [c1 k hk]
        by_cases e2 : k = r.h
        · subst e2; rw [if_pos rfl, set_same, set_same, ← hyt, e]
        · rw [if_neg e2, set_other e2, set_other e2]; exact h.i.hd k hk
      · by_cases e2 : k = r.h
        · subst e2
          rw [set_same]
          exact hch.2.congr fun t ht' => (hlk t (h.i.mem r.h hr.h6 t (by rw [el]; exact List.mem_cons_of_mem _ ht')).1).symm
        · rw [set_other e2]
          exact (h.i.ch k hk).congr fun t ht' => (hlk t (h.i.mem k hk t ht').1).symm
      · obtain ⟨q, q1, q2⟩ := h.i.lb t t1 t2
        exact ⟨q, (hlk t t1).trans q1, q2⟩
      · by_cases e2 : k = r.h
        · subst e2
          rw [set_same] at ht'
          exact h.i.mem r.h hr.h6 t (by rw [el]; exact List.mem_cons_of_mem _ ht')
        · rw [set_other e2] at ht'
          exact h.i.mem k hk t ht'
      · by_cases e2 : k = r.h
        · subst e2; rw [set_same]; exact (List.nodup_cons.1 hnd).2
        · rw [set_other e2]; exact h.i.nd k hk
      · obtain ⟨q1, q2⟩ := h.i.tk t t1 t2
        refine ⟨q1, ?_⟩
        show set S.tk x true t = true ↔ _
        by_cases e2 : ht t = r.h
        · rw [e2, set_same]
          rw [e2, el] at q2
          by_cases e3 : t = x
          · subst e3
            rw [set_same]
            exact ⟨fun _ => (List.nodup_cons.1 hnd).1, fun _ => rfl⟩
          · rw [set_other e3, q2, List.mem_cons]
            exact ⟨fun q hq => q (.inr hq), fun q hq => hq.elim e3 q⟩
        · rw [set_other e2]
          have e3 : t ≠ x := fun e4 => by
            subst e4
            exact e2 (h.i.mem r.h hr.h6 t (by rw [el]; exact List.mem_cons_self ..)).2.2
          rw [set_other e3]; exact q2
      · have tkm : ∀ t, S.tk t = true → set S.tk x true t = true := fun t q => by
          by_cases e3 : t = x
          · rw [e3]; exact set_same ..
          · rw [set_other e3]; exact q
        by_cases e2 : j = i
        · subst e2
          rw [upd_same] at hj; cases hj
          exact ⟨hr.h6, hr.th, fun _ q => absurd rfl q, .inl rfl⟩
        · rw [upd_other e2] at hj
          have hu := h.o j u hj
          refine ⟨hu.h6, hu.th, fun q1 q2 => ⟨(hu.g q1 q2).1, (hu.g q1 q2).2.1, tkm _ (hu.g q1 q2).2.2.1, (hu.g q1 q2).2.2.2⟩, ?_⟩
          rcases hu.p with p | p | ⟨p, p2, s', x', p3, p4⟩ | ⟨p, p2, s', x', y', p3, p4, p5, p6, p7⟩ | ⟨p, p2, s', x', p3⟩ | ⟨p, p2, s', x', p3, p4⟩
          · exact .inl p
          · exact .inr (.inl p)
          · exact .inr (.inr (.inl ⟨p, p2, s', x', (p3.swap r.h rest).1, p4⟩))
          · refine .inr (.inr (.inr (.inl ⟨p, p2, s', x', y', (p3.swap r.h rest).1, p4, p5, p6, fun e => ?_⟩)))
            by_cases e2 : u.h = r.h
            · exact absurd e ((p3.swap r.h rest).2 e2)
            · rw [set_other e2] at e ⊢; exact p7 e
          · exact .inr (.inr (.inr (.inr (.inl ⟨p, p2, s', x', (p3.swap r.h rest).1⟩))))
          · exact .inr (.inr (.inr (.inr (.inr ⟨p, p2, s', x', (p3.swap r.h rest).1, (hlk _ p2).trans p4⟩))))
      · by_cases e2 : j = i
        · subst e2
          rw [upd_same] at hj; cases hj
          exact absurd rfl q3
        · rw [upd_other e2] at hj
          by_cases e3 : k = i
          · subst e3
            rw [upd_same] at hk; cases hk
            exact absurd rfl q4
          · rw [upd_other e3] at hk
            exact h.un j k u v hj hk q1 q2 q3 q4
      · obtain ⟨j, u, q1, q2, q3, q4⟩ := h.gq t hg
        have e2 : j ≠ i := fun e2 => by
          subst e2
          rw [hx] at q1; cases q1
          omega
        exact ⟨j, u, (upd_other e2).trans q1, q2, q3, q4⟩
      · by_cases e2 : k = r.h
        · subst e2; rw [set_same]; omega
        · rw [set_other e2]; have := h.b k; omega
  · have he : ¬ S.M.get (hA pp r.h) = r.hd := fun q => e (hiff.1 q)
    unfold step
    rw [if_neg (by omega), if_neg (by omega), if_neg (by omega), if_pos hp, if_neg he]
    refine ⟨h.same hx (cas_no he) ⟨hr.h6, hr.th, fun q _ => by simp only at q; omega, ?_⟩ rfl (by omega) (.inr h0), rfl, rfl, rfl, rfl⟩
    by_cases e2 : r.fl + 1 = r.tr
    · simp only [if_pos e2]; exact .inl trivial
    · simp only [if_neg e2]; exact .inr (.inl trivial)
/-- a tower is given back -/
theorem All.step8 (h : All pp n ht S stk sw X B) (hx : X i = some r) (hp : r.pc = 8) (hB : B ≤ 100000) : ∃ s x : Nat, Seen n stk sw r.h r.hd s x ∧ 0 < r.tw ∧
    (s = sw r.h → All pp n ht (step pp S r).1 (set stk r.h (r.tw :: stk r.h)) (set sw r.h (sw r.h + 1)) (upd X i (step pp S r).2) (B + 1) ∧ (step pp S r).2.pc = 0 ∧ (step pp S r).1.tk = set S.tk r.tw false ∧ (step pp S r).1.gv = set S.gv r.tw false ∧ (step pp S r).1.gn = set S.gn r.tw (S.gn r.tw + 1)) ∧
    (¬ s = sw r.h → All pp n ht (step pp S r).1 stk sw (upd X i (step pp S r).2) B ∧ (step pp S r).2.pc = 4 ∧ (step pp S r).1.tk = S.tk ∧ (step pp S r).1.gv = S.gv ∧ (step pp S r).1.gn = S.gn) := by
  have hr := h.o i r hx
  have n1 := h.i.n1
  obtain ⟨_, h0, s, x, hs, hlx⟩ : r.pc = 8 ∧ 0 < r.tw ∧ ∃ s x : Nat, Seen n stk sw r.h r.hd s x ∧ S.M.get (lA pp r.tw) = (x : Int) := by
    rcases hr.p with e | e | e | e | e | e
    · omega
    · omega
    · omega
    · omega
    · omega
    · exact e
  obtain ⟨g1, g2, g3, g4⟩ := hr.g h0 (by omega)
  have hiff := h.i.eq_iff hr.h6 hs
  have hsB := h.b r.h
  have hxn := hs.2.1
  have hd : r.hd / 65536 = (s : Int) := by rw [hs.1, wd_div (by omega)]
  have htp : topW (r.hd / 65536 + 1) r.tw = wd (s + 1) r.tw := by rw [hd]; exact topW_wd (by have := hs.2.2.1; omega) (by omega)
  have hout : r.tw ∉ stk r.h := by have := ((h.i.tk r.tw h0 g1).2).1 g3; rw [g2] at this; exact this
  have own : ∀ j u, X j = some u → j ≠ i → 0 < u.tw → u.pc ≠ 0 → u.tw ≠ r.tw := fun j u hj hne q1 q2 e => hne (h.un j i u r hj hx q1 e q2 (by omega))
  refine ⟨s, x, hs, h0, fun e => ?_, fun e => ?_⟩
  · have he := hiff.2 e
    have hxt := hs.2.2.2 e
    unfold step
    rw [if_neg (by omega), if_neg (by omega), if_neg (by omega), if_neg (by omega), if_pos hp, if_pos he, htp]
    obtain ⟨c1, c2⟩ := h.i.cas hr.h6 (t := r.th) (v := wd (s + 1) r.tw) he
    have hlk : ∀ t, 0 < t → (S.M.cas r.th (hA pp r.h) r.hd (wd (s + 1) r.tw)).get (lA pp t) = S.M.get (lA pp t) := fun t ht => by rw [c2, if_neg (by have := hr.h6; omega)]
    refine ⟨⟨⟨by rw [cas_len]; exact h.i.len, n1, fun k hk => ?_, fun k hk => ?_, fun t t1 t2 => ?_, fun k hk t ht' => ?_, fun k hk => ?_, fun t t1 t2 => ?_⟩, fun j u hj => ?_, fun j k u v hj hk q1 q2 q3 q4 => ?_, fun t hg => ?_, fun k => ?_⟩, rfl, rfl, rfl, rfl⟩
    · show (S.M.cas r.th (hA pp r.h) r.hd (wd (s + 1) r.tw)).get (hA pp k) = _
      rw [c1 k hk]
      by_cases e2 : k = r.h
      · rw [if_pos e2, e2, set_same, set_same, e]; rfl
      · rw [if_neg e2, set_other e2, set_other e2]; exact h.i.hd k hk
    · by_cases e2 : k = r.h
      · rw [e2, set_same]
        exact ⟨(hlk _ h0).trans (by rw [hlx, hxt]), (h.i.ch r.h hr.h6).congr fun t ht' => (hlk t (h.i.mem r.h hr.h6 t ht').1).symm⟩
      · rw [set_other e2]
        exact (h.i.ch k hk).congr fun t ht' => (hlk t (h.i.mem k hk t ht').1).symm
    · obtain ⟨q, q1, q2⟩ := h.i.lb t t1 t2
      exact ⟨q, (hlk t t1).trans q1, q2⟩
    · by_cases e2 : k = r.h
      · rw [e2, set_same, List.mem_cons] at ht'
        rcases ht' with q | q
        · subst q; exact ⟨h0, g1, g2.trans e2.symm⟩
        · have := h.i.mem r.h hr.h6 t q; exact ⟨this.1, this.2.1, this.2.2.trans e2.symm⟩
      · rw [set_other e2] at ht'
        exact h.i.mem k hk t ht'
    · by_cases e2 : k = r.h
      · rw [e2, set_same]; exact List.nodup_cons.2 ⟨hout, h.i.nd r.h hr.h6⟩
      · rw [set_other e2]; exact h.i.nd k hk
    · obtain ⟨q1, q2⟩ := h.i.tk t t1 t2
      refine ⟨q1, ?_⟩
      show set S.tk r.tw false t = true ↔ _
      by_cases e3 : t = r.tw
      · rw [e3, set_same, g2, set_same]
        exact ⟨fun q => (by cases q), fun q => absurd (List.mem_cons_self ..) q⟩
      · rw [set_other e3, q2]
        by_cases e2 : ht t = r.h
        · rw [e2, set_same, List.mem_cons]
          exact ⟨fun q hq => hq.elim e3 q, fun q hq => q (.inr hq)⟩
        · rw [set_other e2]
    · by_cases e2 : j = i
      · subst e2
        rw [upd_same] at hj; cases hj
        exact ⟨hr.h6, hr.th, fun _ q => absurd rfl q, .inl rfl⟩
      · rw [upd_other e2] at hj
        have hu := h.o j u hj
        exact hu.swap r.h (r.tw :: stk r.h) hlk fun q1 q2 => by
          have hne := own j u hj e2 q1 q2
          rw [set_other hne, set_other hne]
          exact ⟨(hu.g q1 q2).2.2.1, (hu.g q1 q2).2.2.2⟩
    · by_cases e2 : j = i
      · subst e2
        rw [upd_same] at hj; cases hj
        exact absurd rfl q3
      · rw [upd_other e2] at hj
        by_cases e3 : k = i
        · subst e3
          rw [upd_same] at hk; cases hk
          exact absurd rfl q4
        · rw [upd_other e3] at hk
          exact h.un j k u v hj hk q1 q2 q3 q4
    · have e0 : t ≠ r.tw := fun e2 => by
        have hg' : set S.gv r.tw false t = true := hg
        rw [e2, set_same] at hg'; cases hg'
      have hg' : S.gv t = true := by
        have hg' : set S.gv r.tw false t = true := hg
        rw [set_other e0] at hg'; exact hg'
      obtain ⟨j, u, q1, q2, q3, q4⟩ := h.gq t hg'
      have e2 : j ≠ i := fun e2 => by
        subst e2
        rw [hx] at q1; cases q1
        exact e0 q2.symm
      exact ⟨j, u, (upd_other e2).trans q1, q2, q3, q4⟩
    · by_cases e2 : k = r.h
      · rw [e2, set_same]; omega
      · rw [set_other e2]; have := h.b k; omega
  · have he : ¬ S.M.get (hA pp r.h) = r.hd := fun q => e (hiff.1 q)
    unfold step
    rw [if_neg (by omega), if_neg (by omega), if_neg (by omega), if_neg (by omega), if_pos hp, if_neg he]
    exact ⟨h.same hx (cas_no he) ⟨hr.h6, hr.th, fun _ _ => ⟨g1, g2, g3, g4⟩, .inr (.inl rfl)⟩ rfl (by omega) (.inl (by simp)), rfl, rfl, rfl, rfl⟩
/-- an operation that takes begins -/
theorem All.take (h : All pp n ht S stk sw X B) (hx : X i = none) {r : Op} (h6 : r.h < 6) (th : r.th < 64) (h0 : r.tw = 0) (hp : r.pc = 4) : All pp n ht S stk sw (upd X i r) B := by
  refine ⟨h.i, fun j u hj => ?_, fun j k u v hj hk q1 q2 q3 q4 => ?_, fun t hg => ?_, h.b⟩
  · by_cases e : j = i
    · subst e
      rw [upd_same] at hj; cases hj
      exact ⟨h6, th, fun q _ => by omega, .inr (.inl hp)⟩
    · rw [upd_other e] at hj; exact h.o j u hj
  · by_cases e : j = i
    · subst e
      rw [upd_same] at hj; cases hj
      omega
    · rw [upd_other e] at hj
      by_cases e2 : k = i
      · subst e2
        rw [upd_same] at hk; cases hk
        omega
      · rw [upd_other e2] at hk
        exact h.un j k u v hj hk q1 q2 q3 q4
  · obtain ⟨j, u, q1, q2, q3, q4⟩ := h.gq t hg
    exact ⟨j, u, (upd_other fun e => by rw [e, hx] at q1; cases q1).trans q1, q2, q3, q4⟩
/-- an operation that gives back begins -/
theorem All.give (h : All pp n ht S stk sw X B) (hx : X i = none) {r : Op} (th : r.th < 64) (h0 : 0 < r.tw) (h1 : r.tw ≤ n) (hh : r.h = ht r.tw) (ht' : S.tk r.tw = true) (hg' : S.gv r.tw = false) (hp : r.pc = 4) : All pp n ht ⟨S.M, S.tk, set S.gv r.tw true, S.gn⟩ stk sw (upd X i r) B := by
  have gm : ∀ t, S.gv t = true → set S.gv r.tw true t = true := fun t q => by
    by_cases e3 : t = r.tw
    · rw [e3]; exact set_same ..
    · rw [set_other e3]; exact q
  have no : ∀ j u, X j = some u → u.tw = r.tw → u.pc ≠ 0 → False := fun j u hj e q => by
    have := ((h.o j u hj).g (by omega) q).2.2.2
    rw [e, hg'] at this; cases this
  refine ⟨⟨h.i.len, h.i.n1, h.i.hd, h.i.ch, h.i.lb, h.i.mem, h.i.nd, h.i.tk⟩, fun j u hj => ?_, fun j k u v hj hk q1 q2 q3 q4 => ?_, fun t hg => ?_, h.b⟩
  · by_cases e : j = i
    · subst e
      rw [upd_same] at hj; cases hj
      exact ⟨by rw [hh]; exact (h.i.tk r.tw h0 h1).1, th, fun _ _ => ⟨h1, hh.symm, ht', set_same ..⟩, .inr (.inl hp)⟩
    · rw [upd_other e] at hj
      have hu := h.o j u hj
      exact ⟨hu.h6, hu.th, fun q1 q2 => ⟨(hu.g q1 q2).1, (hu.g q1 q2).2.1, (hu.g q1 q2).2.2.1, gm _ (hu.g q1 q2).2.2.2⟩, hu.p⟩
  · by_cases e : j = i
    · subst e
      rw [upd_same] at hj; cases hj
      by_cases e2 : k = j
      · exact e2.symm
      · rw [upd_other e2] at hk
        exact (no k v hk q2.symm q4).elim
    · rw [upd_other e] at hj
      by_cases e2 : k = i
      · subst e2
        rw [upd_same] at hk; cases hk
        exact (no j u hj q2 q3).elim
      · rw [upd_other e2] at hk
        exact h.un j k u v hj hk q1 q2 q3 q4
  · by_cases e : t = r.tw
    · subst e
      exact ⟨i, r, upd_same .., rfl, by omega, h0⟩
    · have hg2 : set S.gv r.tw true t = true := hg
      rw [set_other e] at hg2
      obtain ⟨j, u, q1, q2, q3, q4⟩ := h.gq t hg2
      exact ⟨j, u, (upd_other fun e => by rw [e, hx] at q1; cases q1).trans q1, q2, q3, q4⟩
theorem All.more (h : All pp n ht S stk sw X B) {B' : Nat} (hB : B ≤ B') : All pp n ht S stk sw X B' := ⟨h.i, h.o, h.un, h.gq, fun k => Nat.le_trans (h.b k) hB⟩
/-- an operation that is forgotten when it has ended -/
theorem All.drop (h : All pp n ht S stk sw X B) (hx : X i = some r) (hp : r.pc = 0) : All pp n ht S stk sw (fun j => if j = i then none else X j) B := by
  refine ⟨h.i, fun j u hj => ?_, fun j k u v hj hk q1 q2 q3 q4 => ?_, fun t hg => ?_, h.b⟩
  · by_cases e : j = i
    · simp [e] at hj
    · simp only [if_neg e] at hj; exact h.o j u hj
  · by_cases e : j = i
    · simp [e] at hj
    · by_cases e2 : k = i
      · simp [e2] at hk
      · simp only [if_neg e] at hj
        simp only [if_neg e2] at hk
        exact h.un j k u v hj hk q1 q2 q3 q4
  · obtain ⟨j, u, q1, q2, q3, q4⟩ := h.gq t hg
    have e : j ≠ i := fun e => by subst e; rw [hx] at q1; cases q1; exact q3 hp
    exact ⟨j, u, by simp only [if_neg e]; exact q1, q2, q3, q4⟩
end
end Po
end Go.Proofs.Ytjcbjbhlclajnaa
