/- strings.HasPrefix. -/
import Derived.Test.YtnmogfjbbibeiaaDi
namespace Go.Proofs.Ytnmogfjbbibeiaa
set_option maxRecDepth 100000
open Go.RowKit
set_option linter.unusedVariables false

def hpre (s p : ByteArray) : Bool := decide (p.size ≤ s.size) && ((s.extract 0 p.size).toList == p.toList)
set_option maxHeartbeats 1000000 in
theorem hpre2_any (s p : ByteArray) (w : World) : Calls Try.prog 54 #[.string s, .string p] w fun e w' => e = .returned (.bool (hpre s p)) ∧ w = w' := by
  by_cases h : p.size ≤ s.size
  · obtain ⟨x, hx⟩ : ∃ x, ((s.extract 0 p.size).toList == p.toList) = x := ⟨_, rfl⟩
    rw [show hpre s p = x by unfold hpre; rw [decide_eq_true h, hx]; rfl]
    go_enter Try.func54, Try.ntmps54
    go_wp2_with fail
    go_ret
    exact ⟨rfl, rfl⟩
  · rw [show hpre s p = false by unfold hpre; rw [decide_eq_false h]; rfl]
    go_enter Try.func54, Try.ntmps54
    go_wp2_with fail
    go_ret
    exact ⟨rfl, rfl⟩
set_option maxHeartbeats 1000000 in
theorem hpre_any (s p : ByteArray) (w : World) : Calls Try.prog 50 #[.string s, .string p] w fun e w' => e = .returned (.bool (hpre s p)) ∧ w = w' := by
  go_enter Try.func50, Try.ntmps50
  go_wp2_with fail
  refine (hpre2_any s p w).mono ?_
  rintro e w2 ⟨rfl, rfl⟩
  go_wp2_with fail
  go_ret
  exact ⟨rfl, rfl⟩
end Go.Proofs.Ytnmogfjbbibeiaa
