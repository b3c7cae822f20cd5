/- PackNums, PackTexts. -/
import Derived.Test.YthnfjkinliekoaaDoorAppI
import Derived.Test.YthnfjkinliekoaaDoorPkG
import Derived.Test.YthnfjkinliekoaaDoorBs
namespace Go.Proofs.YthnfjkinliekoaaDoor
set_option maxRecDepth 100000
open Go.RowKit
set_option linter.unusedVariables false

theorem tot_texts : ∀ (ss : List ByteArray), (∀ s ∈ ss, s.size ≤ 9223372036854775807) → (texts ss).length ≤ 10 * tot ss := by
  intro ss
  induction ss with
  | nil => intro _; simp [texts]
  | cons s ss ih =>
    intro h
    have h1 := ih fun z hz => h z (List.mem_cons_of_mem _ hz)
    have h2 := (numB_len (z := (s.size : Int)) (by omega) (by have := h s (by simp); omega)).2
    unfold texts tot at *
    simp only [List.flatMap_cons, List.length_append, List.map_cons, List.sum_cons, Array.length_toList, ByteArray.size_data]
    omega
def Long (ss : List ByteArray) (w : World) (e : Ending) (w' : World) : Prop := ∃ b : Bool, e = .returned (.bool b) ∧ w = w' ∧ (b = false → tot ss ≤ 16384)
end Go.Proofs.YthnfjkinliekoaaDoor
