/- What a name is of: the document's own. -/
import Derived.Test.YtencpplopdogmaaDoorSc
namespace Go.Proofs.YtencpplopdogmaaDoor
set_option maxRecDepth 100000
open Go.RowKit
set_option linter.unusedVariables false

theorem unhex_odd' (l : List UInt8) (h : l.length % 2 = 1) : unhex l = none := unhex_odd (l.length / 2) l (by omega)
/-- So far: of two digits. -/
def Two (a b : UInt8) (j q m : Nat) : Prop := (q = j ∧ m = 0) ∨ (q = j + 1 ∧ val a = some m) ∨ (q = j + 2 ∧ ∃ x y, val a = some x ∧ val b = some y ∧ m = 16 * x + y)
theorem val_d {c : UInt8} (h1 : 48 ≤ c.toNat) (h2 : c.toNat ≤ 57) : val c = some (c.toNat - 48) := by unfold val; rw [if_pos ⟨h1, h2⟩]
theorem val_l {c : UInt8} (h1 : 97 ≤ c.toNat) (h2 : c.toNat ≤ 102) : val c = some (c.toNat - 87) := by unfold val; rw [if_neg (by omega), if_pos ⟨h1, h2⟩]
theorem val_n {c : UInt8} (h : c.toNat < 48 ∨ (57 < c.toNat ∧ c.toNat < 97) ∨ 102 < c.toNat) : val c = none := by unfold val; rw [if_neg (by omega), if_neg (by omega)]
theorem two_step {s : ByteArray} {a b : UInt8} {j q m : Nat} (h : Two a b j q m) (hq : q < j + 2) (hj : j + 1 < s.size) (ha : s.data.toList[j]? = some a) (hb : s.data.toList[j + 1]? = some b) :
    ∃ c, (∃ h, s[q]'h = c) ∧ m < 16 ∧ (∀ d, val c = some d → Two a b j (q + 1) (m * 16 + d)) ∧ (val c = none → val a = none ∨ val b = none) := by
  have hg : ∀ (i : Nat) (u : UInt8), s.data.toList[i]? = some u → ∃ h, s[i]'h = u := by
    intro i u hu
    have hi : i < s.size := by have := (List.getElem?_eq_some_iff.1 hu).1; simpa using this
    obtain ⟨v, h1, h2⟩ := byte_at hi
    rw [hu] at h2
    injection h2 with h2
    exact ⟨hi, h1.trans h2.symm⟩
  rcases h with ⟨rfl, rfl⟩ | ⟨rfl, hm⟩ | ⟨rfl, _⟩
  · exact ⟨a, hg _ _ ha, by omega, fun d hd => .inr (.inl ⟨rfl, by rw [hd]; congr 1; omega⟩), .inl⟩
  · exact ⟨b, hg _ _ hb, (val_lt hm).1, fun d hd => .inr (.inr ⟨rfl, m, d, hm, hd, by omega⟩), .inr⟩
  · omega
end Go.Proofs.YtencpplopdogmaaDoor
