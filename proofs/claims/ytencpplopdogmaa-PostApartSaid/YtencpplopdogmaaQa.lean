/- Package post: Take. -/
import Derived.Test.YtencpplopdogmaaPz
namespace Go.Proofs.Ytencpplopdogmaa
set_option maxRecDepth 100000
open Go.RowKit
set_option linter.unusedVariables false

def outL (ls : List Ltr) (k : Int) : List Ltr := ls.take k.toNat ++ ls.drop (k.toNat + 1)
def Taken (w : World) (g : Nat) (T : TypeId) (vk : Value) (most k : Int) (ls : List Ltr) (e : Ending) (w' : World) : Prop :=
  ((AtL ls k).2 = false ∧ e = .returned (.tuple #[lv zeroL, .int .i64 51]) ∧ Moved w g T vk most ls w') ∨
  (∃ l, AtL ls k = (l, true) ∧ e = .returned (.tuple #[lv l, .int .i64 0]) ∧ Moved w g T vk most (outL ls k) w')
set_option maxHeartbeats 400000 in
theorem ptake_nil (k : Int) (w : World) : Calls Try.prog 14 #[.pointer none, .int .i64 k] w fun e w' => e = .returned (.tuple #[.agg #[.int .i64 0, .int .i64 0, .string ⟨#[]⟩], .int .i64 2]) ∧ Kp [] w w' := by
  have hk : Kp [] w (w.alloc (.cells #[.int .i64 0, .int .i64 0, .string ⟨#[]⟩] 33)) := (Kp.rfl_ [] w).alloc _
  have b1 : At (w.alloc (.cells #[.int .i64 0, .int .i64 0, .string ⟨#[]⟩] 33)) w.heap.size 33 #[.int .i64 0, .int .i64 0, .string ⟨#[]⟩] := At.new w _ _
  go_enter Try.func14, Try.ntmps14
  go_wp2_with fail
  refine bodyPost_ret (results_letter rfl _ _ _ _ _ _ rfl b1) rfl ?_
  exact ⟨rfl, hk⟩
end Go.Proofs.Ytencpplopdogmaa
