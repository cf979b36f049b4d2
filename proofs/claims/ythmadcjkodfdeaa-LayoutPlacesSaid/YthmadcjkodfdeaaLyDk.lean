/- A Go map keyed by api.Place that the call makes: the set of places seen. Configurations: length and capacity of the cuts. No conditions but those of each lemma. -/
import Derived.Test.YthmadcjkodfdeaaLyO
import Derived.Maps.OwnSet
import Derived.DeepKeys4
namespace Go.Proofs.Ythmadcjkodfdeaa
open Go.RowKit Go.Sort Go.ChangeShapes Go.WideShapes Go.Deep Go.Joins
set_option linter.unusedVariables false
set_option linter.unusedSimpArgs false
namespace Ly
section
variable {H : Type} {enc : TypeId × Value → H} {w : World} {base : Nat} {spare : Nat → Bool} {held : Bool}
theorem cap_cfg {f : Cf} {d : DataW H} {p : List MemPlace} (h : DataW.Trod enc Try.prog w base spare held 27 (.agg #[.int .i64 f.th, .int .i64 f.sl, .int .u8 f.en, .int .i64 f.bu, .int .u8 f.k, .int .i64 f.n, .slice f.A f.m f.c, .int .i64 (f.t 0), .int .i64 (f.t 1), .int .i64 (f.t 2), .int .i64 (f.t 3), .int .i64 (f.t 4), .int .i64 (f.t 5), .int .i64 f.lo, .int .i64 f.tr, .int .i64 f.ba]) d p) : f.m ≤ f.c ∧ f.c ≤ maxLen := by
  obtain ⟨fuel, hf⟩ := h
  obtain ⟨xs, n, _, _, _, hlen, hat⟩ := DataW.trod_struct Try.underlying27 hf
  have hlen : xs.length = 9 := hlen
  have h4 := at_take (o := 4) Dm.cellsOf_dom (hat 4 _ rfl)
  obtain ⟨z4, e4⟩ : ∃ z, xs[4]? = some z := ⟨_, List.getElem?_eq_getElem (by omega)⟩
  rw [e4] at h4
  obtain ⟨ys, n1, _, _, _, hl1, hat1⟩ := DataW.trod_struct Try.underlying24 h4
  have hl1 : ys.length = 3 := hl1
  have h6 := at_take (o := 2) cells_u64s (hat1 2 _ rfl)
  obtain ⟨z6, e6⟩ : ∃ z, ys[2]? = some z := ⟨_, List.getElem?_eq_getElem (by omega)⟩
  rw [e6] at h6
  rcases open_slice1 Try.underlying22 (by kernel_rfl) (by simpa [Value.cells] using h6) with ⟨hcs, hx⟩ | ⟨a, len, cap, m, q, V, D, Pl, hcs, hb, hl, hm, hmm, hx, hi⟩
  · simp at hcs
    obtain ⟨e1, e2, e3⟩ := hcs
    rw [e2, e3]; exact ⟨Nat.le_refl _, Nat.zero_le _⟩
  · simp at hcs
    obtain ⟨e1, e2, e3⟩ := hcs
    rw [e2, e3]; exact ⟨hl, hm⟩
end
/-- a place as a value -/
def kV (p : Pl) : Value := .agg #[.int .u8 p.1, .int .i64 p.2.1, .int .i64 p.2.2]
theorem dj_laid : laidOutB Try.prog = true := by kernel_rfl
theorem dj_row : (59 : TypeId) < Try.prog.types.size := of_decide_eq_true (by kernel_rfl)
theorem dj_wide : (match Try.prog.underlying 59 with | some (.array _ _) | some (.struct _) => true | _ => false) = true := by kernel_rfl
theorem dj_law : WideMaps.KeyLaw Try.prog 59 := deep_law_laid dj_laid (m := 2) (by omega) dj_row (by kernel_rfl) dj_wide
theorem dj_keyed : Maps.Keyed Try.prog 59 := Maps.Keyed.of_law dj_law
theorem dj_zero (w : World) : (zeroValue 4).run Try.prog w = .ok (.bool false) w := by kernel_rfl
theorem wf64 {x : Int} (h : -9223372036854775808 ≤ x ∧ x ≤ 9223372036854775807) : (Lit.int .i64 x).wf = true := by
  have h1 : IntKind.i64.min = -9223372036854775808 := by decide
  have h2 : IntKind.i64.max = 9223372036854775807 := by decide
  simp [Lit.wf, h1, h2, h]
theorem wf8 {x : Int} (h : 0 ≤ x ∧ x ≤ 255) : (Lit.int .u8 x).wf = true := by
  have h1 : IntKind.u8.min = 0 := by decide
  have h2 : IntKind.u8.max = 255 := by decide
  simp [Lit.wf, h1, h2, h]
theorem dj_key {p : Pl} (h1 : 0 ≤ p.1 ∧ p.1 ≤ 255) (h2 : -9223372036854775808 ≤ p.2.1 ∧ p.2.1 ≤ 9223372036854775807) (h3 : -9223372036854775808 ≤ p.2.2 ∧ p.2.2 ≤ 9223372036854775807) : ∃ kl, keyOf Try.prog 59 (kV p) = some kl := by
  have hk : Try.prog.keyType 59 = true := by kernel_rfl
  have hs : Try.prog.underlying 59 = some (.struct (Try.prog.fieldsOf 59)) := by kernel_rfl
  have hc : Try.prog.cellsOf 59 = 3 := by kernel_rfl
  have c3 : Try.prog.cellsOf 3 = 1 := by kernel_rfl
  have c5 : Try.prog.cellsOf 5 = 1 := by kernel_rfl
  have hf : (kV p).formed Try.prog 59 = true := by simp [kV, Value.formed, Try.underlying59, hc]
  have w1 := wf8 h1
  have w2 := wf64 h2
  have w3 := wf64 h3
  have hl : ∃ ls, Try.prog.keyLits (Try.prog.types.size + 1) 59 (kV p).cells.toList = some ls := by
    obtain ⟨n, hn⟩ : ∃ n, Try.prog.types.size = n + 1 := ⟨Try.prog.types.size - 1, (Nat.succ_pred_eq_of_pos (Nat.lt_of_le_of_lt (Nat.zero_le _) dj_row)).symm⟩
    rw [hn]
    simp [Program.keyLits, Try.underlying59, Try.underlying3, Try.underlying5, hc, c3, c5, kV, Value.cells, w1, w2, w3]
  obtain ⟨ls, hl⟩ := hl
  refine ⟨.string (keyBytes ls), ?_⟩
  unfold keyOf
  rw [Try.underlying59]
  simp only [hk, hf, Bool.and_self, if_true, hl, Option.map_some]
theorem plain_bool_inv {H : Type} {P : Program} {e : TypeId} (he : P.underlying e = some .bool) {v : Value} {z : DataW H × List MemPlace} (h : plainElem P e v = some z) : ∃ x, v = .bool x ∧ z = (.lit (.bool x), []) := by
  unfold plainElem at h
  rw [he] at h
  cases v <;> simp at h
  exact ⟨_, rfl, h.symm⟩
/-- the block B is the set of the places p of j numbers a, all different -/
def Sn (w : World) (B j : Nat) (p : Nat → Pl) : Prop := ∃ D : DataW Unit, w.ownsMap Try.prog 59 (plainElem Try.prog 4) B j D ∧ Maps.size D = j ∧ ∀ kl, Maps.has D kl = true → ∃ a, a < j ∧ keyOf Try.prog 59 (kV (p a)) = some kl
theorem Sn.lt {w : World} {B j : Nat} {p : Nat → Pl} (h : Sn w B j p) : B < w.heap.size := by
  obtain ⟨D, h, _⟩ := h; exact h.lt
theorem Sn.same {w w' : World} {B j : Nat} {p : Nat → Pl} (h : Sn w B j p) (hb : w'.heap[B]? = w.heap[B]?) : Sn w' B j p := by
  obtain ⟨D, ⟨es, cl, h1, h2⟩, h3⟩ := h
  exact ⟨D, ⟨es, cl, hb.trans h1, h2⟩, h3⟩
theorem Sn.below {w w' : World} {B j : Nat} {p : Nat → Pl} (h : Sn w B j p) (hb : Below w.heap.size w w') : Sn w' B j p := h.same (hb.block B h.lt)
theorem Sn.made (w : World) (p : Nat → Pl) : Sn (w.alloc (.map #[] 0)) w.heap.size 0 p :=
  ⟨.map [], World.ownsMap_made w Try.prog _ _, rfl, fun kl h => by simp [Maps.has] at h⟩
theorem Sn.len {w : World} {B j : Nat} {p : Nat → Pl} (h : Sn w B j p) (ty : TypeId) : (Builtin.len_ #[65] ty #[.map (some B)]).run Try.prog w = .ok (.int .i64 j) w := by
  obtain ⟨D, h1, h2, _⟩ := h
  rw [h1.len Try.underlying65 ty, h2]
theorem Sn.next {w : World} {B j : Nat} {p : Nat → Pl} (h : Sn w B j p) (hj : j < maxLen) (hd : ∀ a, a < j → p a ≠ p j) (h1 : 0 ≤ (p j).1 ∧ (p j).1 ≤ 255) (h2 : -9223372036854775808 ≤ (p j).2.1 ∧ (p j).2.1 ≤ 9223372036854775807) (h3 : -9223372036854775808 ≤ (p j).2.2 ∧ (p j).2.2 ≤ 9223372036854775807) :
    (Instr.lookup 65 (.map (some B)) (kV (p j)) false).run Try.prog w = .ok (.bool false) w ∧ ∃ w', (Instr.mapUpdate 65 (.map (some B)) (kV (p j)) (.bool true)).run Try.prog w = .ok () w' ∧ Sn w' B (j + 1) p ∧ w.grownBy w' (some B) := by
  obtain ⟨D, o, hs, hk⟩ := h
  obtain ⟨kl, hkl⟩ := dj_key h1 h2 h3
  have hno : Maps.has D kl = false := by
    cases hh : Maps.has D kl with
    | false => rfl
    | true =>
      obtain ⟨a, ha, hka⟩ := hk kl hh
      have := dj_keyed.inj hka hkl
      refine absurd ?_ (hd a ha)
      have e := this
      simp only [kV, Value.agg.injEq, Array.mk.injEq, List.cons.injEq, Value.int.injEq, true_and, and_true] at e
      exact Prod.ext e.1 (Prod.ext e.2.1 e.2.2)
  refine ⟨?_, ?_⟩
  · obtain ⟨v, ps, hrun, hv⟩ := o.lookup dj_keyed Try.underlying65 (dj_zero w) (plainElem_bool Try.underlying4 false) hkl
    rw [Maps.atKey_of_not_has hno] at hv
    obtain ⟨x, rfl, hz⟩ := plain_bool_inv Try.underlying4 hv
    simp only [Prod.mk.injEq, DataW.lit.injEq, Lit.bool.injEq] at hz
    rw [hrun, ← hz.1]
  · obtain ⟨w', hrun, o', hg⟩ := o.update dj_keyed Try.underlying65 hj hkl (plainElem_bool Try.underlying4 true)
    refine ⟨w', hrun, ⟨_, o', ?_, ?_⟩, hg⟩
    · rw [Maps.size_put (o.tidy dj_keyed), hno]; simp [hs]
    · intro kl' hh
      by_cases e : kl' = kl
      · subst e; exact ⟨j, by omega, hkl⟩
      · rw [Maps.has_put_other e] at hh
        obtain ⟨a, ha, hka⟩ := hk kl' hh
        exact ⟨a, by omega, hka⟩
end Ly
end Go.Proofs.Ythmadcjkodfdeaa
