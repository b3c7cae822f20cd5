/- The document's own bytes of many numbers and texts; the length that is played; PackNums, PackTexts, PackJoins. -/
import Derived.Test.YthnfjkinliekoaaDoorPkF
import Derived.Test.YthnfjkinliekoaaDoorPkW
namespace Go.Proofs.YthnfjkinliekoaaDoor
set_option maxRecDepth 100000
open Go.RowKit
set_option linter.unusedVariables false

/-- The step of appending a string to a slice of bytes of the call's own. -/
theorem wpl_bstr {ops : Array Oper} {rest : List Oper} {o : Oper} {a : Act} {Q : Exit → Act → World → Prop} (w0 : World) (base : Nat) (hgd : o.guard = none) (s x : Operand)
    (ho : o.op = .call { callee := .builtin .append, args := #[s, x], argTypes := #[48, 9] }) (v : Value) (l : List UInt8) (t : ByteArray) (hown : OwnB base w0 v l)
    (hs : a.eval s = v) (hx : a.eval x = .string t) (hb : base ≤ w0.heap.size) (hl : l.length + t.size ≤ 1099511627776)
    (h : ∀ v' w', OwnB base w' v' (l ++ t.data.toList) → Below base w0 w' → wpList Tryd.prog ops Q rest (a.put o.dst v') w') :
    wpList Tryd.prog ops Q (o :: rest) a w0 := by
  obtain ⟨i0, hi, hz, hz1, hz2⟩ := info_parts info_u8
  refine Lib.wpList_append_own_string w0 hgd s x 48 9 ho base 5 i0 Tryd.underlying48 Tryd.underlying9 hi hz hz1 hz2 v l.length (Lib.byteCells l) hs hown t hx (by unfold maxLen; omega) (by omega) hb ?_
  intro v' w' hown' hg _
  refine h v' w' ?_ ((Below.refl _ _).grown hg hb fun k hk => (own_block_lt hown hk).1)
  have hlen : (l ++ t.data.toList).length = l.length + t.size := by simp
  unfold OwnB
  rw [Lib.byteCells_append, hlen]
  exact hown'

end Go.Proofs.YthnfjkinliekoaaDoor
