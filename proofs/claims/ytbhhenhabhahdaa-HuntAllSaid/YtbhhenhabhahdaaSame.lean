/- The document's comparison of two lists of texts: it only reads. -/
import Derived.Test.YtbhhenhabhahdaaBs
import Derived.Deep.LoopGhost
import Derived.BigQuiet
import Derived.Deep.QuietTactic
namespace Go.Proofs.Ytbhhenhabhahdaa
set_option maxRecDepth 100000
open Go.RowKit
set_option linter.unusedVariables false

theorem Ls.drewN {w : World} {A : Option Addr} {n : Nat} {xs : List Value} (h : Ls w A n xs) (m : Nat) : Ls (w.drewN m) A n xs := h
theorem getD_map {zs : List ByteArray} {k : Nat} (h : k < zs.length) : (zs.map Value.string)[k]? = some (Value.string zs[k]) := by
  rw [List.getElem?_map, List.getElem?_eq_getElem h]; rfl
theorem Ls.str_at {w : World} {A : Option Addr} {n k : Nat} {zs : List ByteArray} (h : Ls w A n (zs.map Value.string)) (hk : k < n) : ∃ ad z, A = some ad ∧ zs[k]? = some z ∧ w.cell? (ad.add k) = some (Value.string z) := by
  obtain ⟨ad, u, e, _, hu, hc⟩ := h.at_ hk
  have hl : k < zs.length := by have := h.1; simp at this; omega
  rw [getD_map hl] at hu
  injection hu with hu
  subst hu
  exact ⟨ad, _, e, List.getElem?_eq_getElem hl, hc⟩

theorem toList_ne {a b : ByteArray} (h : a ≠ b) : (a.toList == b.toList) = false := by
  rw [beq_eq_false_iff_ne, toList_eq, toList_eq]
  exact fun e => h (bs_eq e)
end Go.Proofs.Ytbhhenhabhahdaa
