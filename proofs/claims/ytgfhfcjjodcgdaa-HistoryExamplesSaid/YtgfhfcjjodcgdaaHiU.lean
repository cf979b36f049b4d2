/- Package history: Agrees: contract of the translated code. Conditions: those of each lemma. -/
import Derived.Test.YtgfhfcjjodcgdaaHiJ
namespace Go.Proofs.Ytgfhfcjjodcgdaa
open Go.RowKit Go.Shelf Go.Sort
set_option linter.unusedVariables false
set_option linter.unusedSimpArgs false
attribute [local go_sem] Oper.semAt_some
namespace Hi
def erA (l : List C) (o : List Int) : Int := if erC l = 0 then ordE l.length o else erC l
def agV (l : List C) (o : List Int) : Bool := decide (erA l o = 0) && agB l o
def AgPost (l : List C) (o : List Int) (w : World) (e : Ending) (w' : World) : Prop := e = .returned (.tuple #[.bool (agV l o), .int .i64 (erA l o)]) ∧ Below w.heap.size w w'
set_option maxRecDepth 100000 in
set_option maxHeartbeats 1000000 in
theorem Agrees_any (A : Option Addr) (mo co : Nat) (o : List Int) (hlo : o.length = mo) (hmo : mo ≤ 1000) (Al : Option Addr) (n cl : Nat) (l : List C) (hl : l.length = n) (hn : n ≤ 1000) (w : World) (hrd : KI.Rd w A o) (hrl : KC.Rd w Al l) (hbd : Bd l) :
    Calls Try.prog 25 #[.slice A mo co, .slice Al n cl] w (AgPost l o w) := by
  have CC := Lib.hid (check_any Al n cl l w hl hn hrl hbd)
  rw [chkV_eq] at CC
  have HR := Lib.hid hrl
  have HO := Lib.hid hrd
  have HEA := Lib.hid (show erA l o = if erC l = 0 then ordE n o else erC l from by unfold erA; rw [hl])
  have HMB := Lib.hid (fun (w1 : World) (h1 : KI.Rd w1 A o) => members_any A mo co o hlo hmo n hn w1 h1)
  have HAG := Lib.hid (fun (B : Nat) (w1 : World) (h1 : KI.Rd w1 A o) (h2 : KC.Rd w1 Al l) (h3 : Rb w1 B n (inO o mo)) (h4 : WF l) (h5 : ordE n o = 0) => agrees_any A mo co o hlo hmo B n Al cl l hl hn w1 h1 h2 h3 h4 hbd h5)
  have HLO := Lib.hid hlo
  clear hl hlo hrl hrd hbd
  generalize chkAt l = at_ at *
  have HP := Lib.hid (show ∀ (b : Bool) (er : Int) w', agV l o = b → erA l o = er → Below w.heap.size w w' → AgPost l o w (.returned (.tuple #[.bool b, .int .i64 er])) w' from fun b er w' h1 h2 h3 => ⟨by rw [h1, h2], h3⟩)
  by_cases hwf : WF l
  · rw [erC_ok hwf] at CC
    have HE := Lib.hid (show erA l o = ordE n o by rw [HEA.out, erC_ok hwf, if_pos rfl])
    go_enter Try.func25, Try.ntmps25
    go_wp2_with fail
    refine CC.out.mono ?_
    rintro e w1 ⟨rfl, b1⟩
    have B1 := Lib.hid b1
    clear CC
    go_wp2_with fail
    refine (HMB.out w1 (HO.out.below b1)).mono ?_
    rintro e w2 ⟨b2, ⟨he, rfl, hrb⟩ | ⟨he, rfl⟩⟩
    · have B2 := Lib.hid (bel_bel b1 b2)
      have HO2 := HO.out.below B2.out
      have HR2 := HR.out.below B2.out
      rw [HLO.out] at hrb
      have CA := Lib.hid (HAG.out _ _ HO2 HR2 hrb hwf he)
      have HV := Lib.hid (show agV l o = agB l o by unfold agV; rw [HE.out, he]; simp)
      rw [he] at HE
      clear b1 b2 hrb HO2 HR2 he
      go_wp2_with fail
      refine CA.out.mono ?_
      rintro e w3 ⟨rfl, b3⟩
      go_wp2
      go_ret2
      exact HP.out _ _ _ HV.out HE.out (bel_bel B2.out b3)
    · have B2 := Lib.hid (bel_bel b1 b2)
      have HV := Lib.hid (show agV l o = false by unfold agV; rw [HE.out, decide_eq_false he]; rfl)
      obtain ⟨er, her⟩ : ∃ er, ordE n o = er := ⟨_, rfl⟩
      rw [her] at HE he ⊢
      have d0 : (er != 0) = true := by simpa using he
      clear b1 b2 he her
      go_wp2
      go_ret2
      exact HP.out _ _ _ HV.out HE.out B2.out
  · rw [erC_no hwf] at CC
    have HE := Lib.hid (show erA l o = 15 by rw [HEA.out, erC_no hwf, if_neg (by decide)])
    have HV := Lib.hid (show agV l o = false by unfold agV; rw [HE.out]; rfl)
    clear hwf
    go_enter Try.func25, Try.ntmps25
    go_wp2_with fail
    refine CC.out.mono ?_
    rintro e w1 ⟨rfl, b1⟩
    go_wp2
    go_ret2
    exact HP.out _ _ _ HV.out HE.out b1
end Hi
end Go.Proofs.Ytgfhfcjjodcgdaa
