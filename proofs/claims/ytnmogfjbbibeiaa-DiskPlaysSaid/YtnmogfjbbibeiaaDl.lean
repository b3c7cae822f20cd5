/- Package disk: what a range over the files gives. -/
import Derived.Test.YtnmogfjbbibeiaaDk
import Derived.Maps.RangeWalk
namespace Go.Proofs.Ytnmogfjbbibeiaa
set_option maxRecDepth 100000
open Go.RowKit Go.Maps Go.WideMaps Go.WideElems Go.ChangeMaps
set_option linter.unusedVariables false

def mkP (x : Option Nat) : Value := .pointer (x.map fun g => ⟨g, 0, none⟩)
theorem invP : ∀ v y, Rp v = some y → ∃ c, v = mkP c := by
  intro v y h
  unfold Rp at h
  split at h
  · rename_i g
    exact ⟨some g, rfl⟩
  · exact ⟨none, rfl⟩
  · cases h
theorem invS : ∀ key kl, keyOf Try.prog 9 key = some kl → ∃ x : ByteArray, key = .string x := by
  intro key kl h
  obtain ⟨s, h1, _⟩ := string_of_keyOf Try.underlying9 h
  exact ⟨s, h1⟩
end Go.Proofs.Ytnmogfjbbibeiaa
