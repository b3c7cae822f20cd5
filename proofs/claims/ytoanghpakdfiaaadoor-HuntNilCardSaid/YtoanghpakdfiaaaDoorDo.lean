/- A package-level table of integers, cell by cell. -/
import Derived.OpenShut
import Derived.FnData
import Derived.LaidMore
import Derived.LaidLaws
import Derived.LaidHandle
import Derived.MakeChecks
import Derived.Stop.Joined
import Derived.WalkKit
namespace Go.Proofs.YtoanghpakdfiaaaDoor
set_option maxRecDepth 100000
open Go.RowKit

theorem arr_cells {H : Type} {enc : TypeId × Value → H} {P : Program} {W : World} {base : Nat} {sp : Nat → Bool} {held : Bool} {fuel : Nat} {t e : TypeId} {n : Nat} {k : IntKind} {cs : List Value} {zs : List Int} {p : List MemPlace}
    (ht : P.underlying t = some (.array n e)) (he : P.underlying e = some (.int k)) (hc : P.cellsOf e = 1)
    (h : DataW.trod enc P W base sp held fuel t cs = some (.agg (zs.map fun z => .lit (.int k z)), p)) : zs.length = n ∧ ∀ j, j < n → cs[j]? = some (.int k (zs.getD j 0)) := by
  obtain ⟨xs, m, rfl, hx, hl, hn, hel⟩ := DataW.trod_array ht h
  simp only [Prod.mk.injEq, DataW.agg.injEq] at hx
  have hlen : zs.length = n := by
    have := congrArg List.length hx.1
    simp at this
    omega
  refine ⟨hlen, fun j hj => ?_⟩
  have h1 := hel j hj
  rw [hc, Nat.mul_one, List.getElem?_eq_getElem (by omega)] at h1
  obtain ⟨a, e1, e2, _⟩ := DataW.trod_int he h1
  have h2 : (zs.map fun z => (DataW.lit (.int k z) : DataW H))[j]? = (xs.map (·.1))[j]? := by rw [hx.1]
  rw [List.getElem?_map, List.getElem?_map, List.getElem?_eq_getElem (by omega), List.getElem?_eq_getElem (by omega), e2] at h2
  have h3 : zs[j] = a := by simpa using h2
  have h4 : (cs.drop j)[0]? = some (.int k a) := by
    have := congrArg (·[0]?) e1
    simpa [List.getElem?_take] using this
  rw [List.getElem?_drop, Nat.add_zero] at h4
  rw [h4, ← h3]
  congr 2
  simp [List.getD, List.getElem?_eq_getElem (show j < zs.length by omega)]
theorem arr_var {P : Program} {W : World} {s : String} {g n : Nat} {k : IntKind} {cs : Array Value} {zs : List Int} (hg : P.globalNamed s = some g) (hv : W.var? P s = some cs)
    (h : zs.length = n ∧ ∀ j, j < n → cs.toList[j]? = some (.int k (zs.getD j 0))) (h0 : 0 < n) : g < W.heap.size ∧ ∀ j, j < n → W.cell? ⟨g, j, none⟩ = some (.int k (zs.getD j 0)) := by
  have hc : ∀ j, j < n → W.cell? ⟨g, j, none⟩ = some (.int k (zs.getD j 0)) := fun j hj => by
    rw [World.var?_cell hg hv j]
    simpa using h.2 j hj
  refine ⟨?_, hc⟩
  rcases Nat.lt_or_ge g W.heap.size with hlt | hge
  · exact hlt
  · have := hc 0 h0
    simp [World.cell?, Array.getElem?_eq_none hge] at this
end Go.Proofs.YtoanghpakdfiaaaDoor
