/- Arguments that are a list of numbers, or a map from keys to domain values: what lies in memory when they are read as data. No conditions. -/
import Derived.Test.YtcipjjchclpgnaaDom
import Derived.Deep.Slices
import Derived.Deep.Fields
import Derived.ChangeSame
import Derived.OpenShut
import Derived.Lib.SmallJoins
namespace Go.Proofs.Ytcipjjchclpgnaa
open Go.RowKit Go.Sort Go.ChangeShapes Go.WideShapes Go.Deep Go.Joins
set_option linter.unusedVariables false
set_option linter.unusedSimpArgs false
set_option maxRecDepth 100000
namespace Dm
def rdK (w : World) (a : Addr) : Int := match w.cell? a with | some (.int _ n) => n | _ => 0
theorem rdK_of {w : World} {a : Addr} {k : IntKind} {n : Int} (h : w.cell? a = some (.int k n)) : rdK w a = n := by simp [rdK, h]
theorem spot_none {w : World} {a : Addr} {v : Value} (h : w.cell? a = some v) : a.spot = none := by
  unfold World.cell? at h
  split at h
  · split at h
    · cases h
    · rename_i hs; simpa using hs
  · cases h
section
variable {H : Type} {enc : TypeId × Value → H} {w : World} {base fuel : Nat} {spare : Nat → Bool} {held : Bool}
set_option maxRecDepth 100000 in
theorem open_nums {κ : IntKind} {t e : TypeId} {v : Value} {y : DataW H × List MemPlace} (ht : Try.prog.underlying t = some (.slice e)) (he : Try.prog.underlying e = some (.int κ)) (hc : Try.prog.cellsOf e = 1)
    (h : DataW.trod enc Try.prog w base spare held fuel t [v] = some y) :
    ∃ (A : Option Addr) (n c : Nat) (l : List Int), v = .slice A n c ∧ l.length = n ∧ n ≤ maxLen ∧ RdK κ w A l ∧ (∀ k, k < l.length → (Lit.int κ (l.getD k 0)).wf = true) ∧ (A = none → c = 0) := by
  rcases open_slice1 ht hc h with ⟨h0, _⟩ | ⟨a, n, c, m, q, V, D, Pl, h0, hb, hl, hm, hmm, _, hi⟩
  · simp at h0
    subst h0
    exact ⟨none, 0, 0, [], rfl, rfl, Nat.zero_le _, fun k hk => (by simp at hk), fun k hk => (by simp at hk), fun _ => rfl⟩
  · simp at h0
    subst h0
    have hnm : n ≤ m := by rw [hmm]; split <;> omega
    have each : ∀ i, i < n → ∃ x : Int, w.cell? (a.add i) = some (.int κ x) ∧ (Lit.int κ x).wf = true := by
      intro i hin
      obtain ⟨g, t0⟩ := hi i (by omega)
      obtain ⟨x, e0, _, w0⟩ := DataW.trod_int he t0
      simp at e0
      rw [e0] at g
      exact ⟨x, g, w0⟩
    have hget : ∀ k, k < n → ((List.range n).map fun i => rdK w (a.add i)).getD k 0 = rdK w (a.add k) := by
      intro k hk
      rw [List.getD_eq_getElem?_getD, List.getElem?_map, List.getElem?_range hk]
      rfl
    refine ⟨some a, n, c, (List.range n).map fun i => rdK w (a.add i), rfl, by simp, by omega, ?_, ?_, fun h => (by cases h)⟩
    · intro k hk
      have hkn : k < n := by simpa using hk
      rw [hget k hkn]
      obtain ⟨b, o, s⟩ := a
      obtain ⟨_, z0, _⟩ := each 0 (by omega)
      have hs : s = none := spot_none (a := ⟨b, o, s⟩) (by simpa [Addr.add] using z0)
      subst hs
      obtain ⟨x, c0, _⟩ := each k hkn
      refine ⟨b, o, rfl, ?_⟩
      have e : (⟨b, o, none⟩ : Addr).add k = ⟨b, o + k, none⟩ := by simp [Addr.add]
      rw [rdK_of c0]
      rw [e] at c0
      exact c0
    · intro k hk
      have hkn : k < n := by simpa using hk
      rw [hget k hkn]
      obtain ⟨x, c0, w0⟩ := each k hkn
      rw [rdK_of c0]
      exact w0
set_option maxRecDepth 100000 in
/-- an argument that is a list of numbers -/
theorem open_u64s {b0 : Nat} {r : Reach} {v : Value} {d : DataW H} {p : List MemPlace} (hv : Value.okWide Try.prog w r b0 26 v) (h : DataW.Trod enc Try.prog w base spare held 26 v d p) :
    ∃ (A : Option Addr) (n c : Nat) (l : List Int), v = .slice A n c ∧ l.length = n ∧ n ≤ maxLen ∧ RdK .u64 w A l ∧ BdU l ∧ (A = none → c = 0) := by
  obtain ⟨A, n, c, rfl⟩ := okWide_slice Try.underlying26 hv
  obtain ⟨fuel, hf⟩ := h
  obtain ⟨A', n', c', l, e, h1, h2, h3, h4, h5⟩ := open_nums Try.underlying26 Try.underlying57 (by kernel_rfl) (by simpa [Value.cells] using hf)
  exact ⟨A', n', c', l, e, h1, h2, h3, fun k hk => bounds_u64 (h4 k hk), h5⟩
def BdI (l : List Int) : Prop := ∀ k, k < l.length → -9223372036854775808 ≤ l.getD k 0 ∧ l.getD k 0 ≤ 9223372036854775807
set_option maxRecDepth 100000 in
theorem open_ints {b0 : Nat} {r : Reach} {v : Value} {d : DataW H} {p : List MemPlace} (hv : Value.okWide Try.prog w r b0 41 v) (h : DataW.Trod enc Try.prog w base spare held 41 v d p) :
    ∃ (A : Option Addr) (n c : Nat) (l : List Int), v = .slice A n c ∧ l.length = n ∧ n ≤ maxLen ∧ RdK .i64 w A l ∧ BdI l ∧ (A = none → c = 0) := by
  obtain ⟨A, n, c, rfl⟩ := okWide_slice Try.underlying41 hv
  obtain ⟨fuel, hf⟩ := h
  obtain ⟨A', n', c', l, e, h1, h2, h3, h4, h5⟩ := open_nums Try.underlying41 Try.underlying3 (by kernel_rfl) (by simpa [Value.cells] using hf)
  exact ⟨A', n', c', l, e, h1, h2, h3, fun k hk => bounds_i64 (h4 k hk), h5⟩
theorem cellsOf_dom : Try.prog.cellsOf 28 = 3 := by kernel_rfl
set_option maxRecDepth 100000 in
/-- an argument that is a map -/
theorem open_dom {b0 : Nat} {r : Reach} {v : Value} {d : DataW H} {p : List MemPlace} (hv : Value.okWide Try.prog w r b0 28 v) (h : DataW.Trod enc Try.prog w base spare held 28 v d p) :
    ∃ (k n : Int) (A : Option Addr) (m c : Nat) (l : List Int), v = .agg #[.int .u8 k, .int .i64 n, .slice A m c] ∧ 0 ≤ k ∧ k ≤ 255 ∧ -9223372036854775808 ≤ n ∧ n ≤ 9223372036854775807 ∧
      l.length = m ∧ m ≤ maxLen ∧ RdK .u64 w A l ∧ BdU l ∧ (A = none → c = 0) := by
  obtain ⟨v0, v1, v2, y0, y1, y2, q, rfl, _, _, t0, t1, t2⟩ := open_agg3 Try.underlying28 (by kernel_rfl) cellsOf_dom hv h
  obtain ⟨k, e0, _, w0⟩ := DataW.trod_int Try.underlying5 t0
  obtain ⟨n, e1, _, w1⟩ := DataW.trod_int Try.underlying3 t1
  simp at e0 e1
  subst e0 e1
  obtain ⟨A, m, c, l, e, h1, h2, h3, h4, h5⟩ := open_nums (κ := .u64) Try.underlying26 Try.underlying57 (by kernel_rfl) t2
  subst e
  exact ⟨k, n, A, m, c, l, rfl, (bounds_u8 w0).1, (bounds_u8 w0).2, (bounds_i64 w1).1, (bounds_i64 w1).2, h1, h2, h3, fun j hj => bounds_u64 (h4 j hj), h5⟩
end
end Dm
end Go.Proofs.Ytcipjjchclpgnaa
