/- What the listed package variables hold when the call begins: each cell of each table. -/
import Derived.Test.YtglehfpddhkoeaaDoorRows
import Derived.Test.YtglehfpddhkoeaaDoorDo
namespace Go.Proofs.YtglehfpddhkoeaaDoor
open Go.RowKit
set_option maxRecDepth 100000
theorem laid0_g0 : Tryd.prog.globalNamed "redoubt/crc.turned" = some 0 := by kernel_rfl
theorem laid0_t0 : (Tryd.prog.globals[0]?).map (·.type) = some 38 := by kernel_rfl
theorem laid0_met (os : Os) (args : Array Value) : laidMetH Tryd.prog [("redoubt/crc.turned", Rows.laid_redoubt_crc_turned)] ((World.doorLaid Tryd.prog 400 os).forCall (fun _ _ => 0) ⟨#[], args, []⟩).memory :=
  laidMetH_of_parts3 (fuel := 8) (laidMet_of_run' 8 (by kernel_rfl) (by kernel_rfl)) (by kernel_rfl) (by kernel_rfl)
theorem laid0_of {W : World} (h : laidMetH Tryd.prog [("redoubt/crc.turned", Rows.laid_redoubt_crc_turned)] W) : (0 < W.heap.size ∧ ∀ j, j < 16 → W.cell? ⟨0, j, none⟩ = some (.int .u32 (([0, 498536548, 997073096, 651767980, 1994146192, 1802195444, 1303535960, 1342533948, 3988292384, 4027552580, 3604390888, 3412177804, 2607071920, 2262029012, 2685067896, 3183342108] : List Int).getD j 0))) := by
  rw [MakeChecks.laidMetH_plain _ _ _ (by kernel_rfl)] at h
  obtain ⟨ps, ⟨g0, t0, cs0, f0, p0, q0, hg0, ht0, hv0, hd0, _, _⟩, _, _⟩ := h
  obtain rfl := Option.some.inj (laid0_g0.symm.trans hg0)
  obtain rfl := Option.some.inj (laid0_t0.symm.trans ht0)
  exact arr_var hg0 hv0 (arr_cells Tryd.underlying38 Tryd.underlying22 (by kernel_rfl) (zs := [0, 498536548, 997073096, 651767980, 1994146192, 1802195444, 1303535960, 1342533948, 3988292384, 4027552580, 3604390888, 3412177804, 2607071920, 2262029012, 2685067896, 3183342108]) hd0) (by decide)
end Go.Proofs.YtglehfpddhkoeaaDoor
