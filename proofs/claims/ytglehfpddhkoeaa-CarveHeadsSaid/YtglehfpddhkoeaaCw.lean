/- Package carve: parts that fit, parts put together; the document's own chunks. -/
import Derived.Test.YtglehfpddhkoeaaCv
import Derived.Test.YtglehfpddhkoeaaSh
import Derived.Lib.AppendStr
namespace Go.Proofs.Ytglehfpddhkoeaa
open Go.RowKit
set_option linter.unusedVariables false

/-- May these be chunks: each one has a byte at least, and 64 at most; just the last one may have less than 64. -/
def FitAt (ss : List ByteArray) (i : Nat) : Prop := ∀ z, ss[i]? = some z → 1 ≤ z.size ∧ z.size ≤ 64 ∧ (i + 1 < ss.length → 64 ≤ z.size)
def Fit (ss : List ByteArray) : Prop := ∀ i, FitAt ss i
def FitSays (ss : List ByteArray) (w : World) (e : Ending) (w' : World) : Prop := ∃ b : Bool, e = .returned (.bool b) ∧ (b = true ↔ Fit ss) ∧ Kp [] w w'
theorem fit_no {ss : List ByteArray} {i : Nat} {z : ByteArray} (h : ss[i]? = some z) (hn : ¬ (1 ≤ z.size ∧ z.size ≤ 64 ∧ (i + 1 < ss.length → 64 ≤ z.size))) : ¬ Fit ss := fun hf => hn (hf i z h)
theorem FitSays.no {ss : List ByteArray} {w w' : World} {e : Ending} (he : e = .returned (.bool false)) (h : ¬ Fit ss) (hk : Kp [] w w') : FitSays ss w e w' := ⟨false, he, ⟨fun h => (by cases h), fun hf => absurd hf h⟩, hk⟩
theorem FitSays.yes {ss : List ByteArray} {w w' : World} {e : Ending} (he : e = .returned (.bool true)) (h : Fit ss) (hk : Kp [] w w') : FitSays ss w e w' := ⟨true, he, ⟨fun _ => h, fun _ => rfl⟩, hk⟩

set_option maxRecDepth 100000 in
set_option maxHeartbeats 2000000 in
theorem fits_any (A : Option Addr) (n c : Nat) (ss : List ByteArray) (w : World) (hA : Ls w A n (ss.map Value.string)) (hn : n ≤ 1099511627776) :
    Calls Try.prog 19 #[.slice A n c] w (FitSays ss w) := by
  have h1 : ss.length = n := by simpa using hA.1
  have H1 := Lib.hid h1
  clear h1
  go_enter Try.func19, Try.ntmps19
  go_wp2_with fail
  go_loopg [8] n (fun gk i wr => ∃ k : Nat, n - k ≤ gk ∧ i = .int .i64 k ∧ k ≤ n ∧ Kp [] w wr ∧ ∀ j, j < k → FitAt ss j)
  case atStart => exact ⟨0, by omega, rfl, Nat.zero_le _, Kp.rfl_ _ _, fun j h => absurd h (by omega)⟩
  case round =>
    obtain ⟨k, hgk, rfl, hk, hkp, hfa⟩ := hrel
    have HFA := Lib.hid hfa
    clear hfa
    by_cases hlt : k < n
    · obtain ⟨ad, z, rfl, hz, hc⟩ := (hA.kp hkp (by simp)).str_at hlt
      have HZ := Lib.hid hz
      clear hz
      have hstep : (1 ≤ z.size ∧ z.size ≤ 64 ∧ (k + 1 < n → 64 ≤ z.size)) → ∀ j, j < k + 1 → FitAt ss j := fun h j hj => by
        by_cases e : j < k
        · exact HFA.out j e
        · obtain rfl : j = k := by omega
          intro z' hz'
          rw [HZ.out] at hz'
          injection hz' with hz'
          subst hz'
          rw [H1.out]
          exact h
      have HST := Lib.hid hstep
      clear hstep
      have hlw : IntKind.i64.wrap ((n : Int) - 1) = (n : Int) - 1 := IntWalk.i64_in _ (by omega)
      by_cases hbig : 64 < z.size
      · have hno := Lib.hid (fit_no HZ.out (fun h => by omega))
        have hbi : (64 : Int) < (z.size : Int) := by omega
        go_wp2_with fail
        go_ret
        exact .no rfl hno.out hkp
      · have hbi : ¬ (64 : Int) < (z.size : Int) := by omega
        by_cases hz0 : z.size = 0
        · have hno := Lib.hid (fit_no HZ.out (fun h => by omega))
          have h0 : ((z.size : Int) == 0) = true := by rw [beq_iff_eq]; omega
          clear hz0
          go_wp2_with fail
          go_ret
          exact .no rfl hno.out hkp
        · have h0 : ((z.size : Int) == 0) = false := by rw [beq_eq_false_iff_ne]; omega
          by_cases hla : k + 1 = n
          · have hl : ((k : Int) == (n : Int) - 1) = true := by rw [beq_iff_eq]; omega
            have HS2 := Lib.hid (HST.out ⟨by omega, by omega, by omega⟩)
            have hk1 : k + 1 ≤ n := by omega
            clear hla HST
            go_wp2_with fail
            go_roundg (n - (k + 1))
            case measure => omega
            case rel => exact ⟨k + 1, by omega, by go_num, by omega, hkp, HS2.out⟩
          · have hl : ((k : Int) == (n : Int) - 1) = false := by rw [beq_eq_false_iff_ne]; omega
            by_cases h64 : z.size < 64
            · have hno := Lib.hid (fit_no HZ.out (fun h => by have := h.2.2 (by rw [H1.out]; omega); omega))
              have h6 : (z.size : Int) < 64 := by omega
              go_wp2_with fail
              go_ret
              exact .no rfl hno.out hkp
            · have h6 : ¬ (z.size : Int) < 64 := by omega
              have HS2 := Lib.hid (HST.out ⟨by omega, by omega, by omega⟩)
              clear HST
              go_wp2_with fail
              go_roundg (n - (k + 1))
              case measure => omega
              case rel => exact ⟨k + 1, by omega, by go_num, by omega, hkp, HS2.out⟩
    · have hf : Fit ss := fun i => by
        by_cases e : i < k
        · exact HFA.out i e
        · intro z hz
          have := (List.getElem?_eq_some_iff.1 hz).1
          have := H1.out
          omega
      have HF := Lib.hid hf
      clear hf
      go_wp2_with fail
      go_ret
      exact .yes rfl HF.out hkp
end Go.Proofs.Ytglehfpddhkoeaa
