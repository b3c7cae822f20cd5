/- A law's argument that is a pair of integers. -/
import Derived.Test.YtglehfpddhkoeaaIn
import Derived.Lib.SmallJoins
namespace Go.Proofs.Ytglehfpddhkoeaa
open Go.RowKit Go.ChangeShapes Go.WideShapes Go.Joins

theorem in_spot {W : World} {v : Value} (h : In W 41 v) : ∃ a b : Int, v = .agg #[.int .i64 a, .int .i64 b] ∧ (Lit.int .i64 a).wf = true ∧ (Lit.int .i64 b).wf = true := by
  obtain ⟨⟨r, b0, hv⟩, H, enc, fuel, x, hx⟩ := h
  obtain ⟨c0, c1, y0, y1, m, rfl, -, -, h0, h1⟩ := open_agg2 (P := Try.prog) Try.underlying41 (by kernel_rfl) (by kernel_rfl) hv ⟨fuel, hx⟩
  obtain ⟨a, e0, -, wa⟩ := DataW.trod_int Try.underlying3 h0
  obtain ⟨b, e1, -, wb⟩ := DataW.trod_int Try.underlying3 h1
  simp at e0 e1
  subst e0 e1
  exact ⟨a, b, rfl, wa, wb⟩
end Go.Proofs.Ytglehfpddhkoeaa
