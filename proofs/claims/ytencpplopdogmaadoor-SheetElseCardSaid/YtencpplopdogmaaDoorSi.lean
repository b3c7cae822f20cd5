/- The state ahead of the first block. -/
import Derived.Test.YtencpplopdogmaaDoorSg
import Derived.Laws.Rows
namespace Go.Proofs.YtencpplopdogmaaDoor
set_option maxRecDepth 100000
open Go.RowKit
set_option linter.unusedVariables false

def begW : List Nat := [0x6a09e667, 0xbb67ae85, 0x3c6ef372, 0xa54ff53a, 0x510e527f, 0x9b05688c, 0x1f83d9ab, 0x5be0cd19]
set_option maxHeartbeats 1000000 in
theorem begin_any (w : World) :
    Calls Tryd.prog 45 #[] w fun e w' => e = .returned (.agg (wordCells begW).toArray) ∧ Kp [] w w' := by
  go_enter Tryd.func45, Tryd.ntmps45
  go_wp2_with fail
  exact bodyPost_ret (results_cell_row (P := Tryd.prog) rfl _ _ w.heap.size _ _ _ _ rfl (heap_alloc_new w _) Tryd.underlying68 rfl (by kernel_rfl)) rfl ⟨rfl, (Kp.rfl_ _ _).alloc _⟩
end Go.Proofs.YtencpplopdogmaaDoor
