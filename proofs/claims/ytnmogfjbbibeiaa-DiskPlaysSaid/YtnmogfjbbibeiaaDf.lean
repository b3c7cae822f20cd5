/- Package disk: Fuse, Down, Steps. -/
import Derived.Test.YtnmogfjbbibeiaaDe
namespace Go.Proofs.Ytnmogfjbbibeiaa
set_option maxRecDepth 100000
open Go.RowKit Go.Maps Go.WideMaps Go.WideElems Go.ChangeMaps
set_option linter.unusedVariables false

set_option maxHeartbeats 1000000 in
theorem ddown_any (w : World) {d b N : Nat} {F : ByteArray → Option Fl} {down fused : Bool} {left steps : Nat} (h : DSt w d b N F down fused left steps) :
    Calls Try.prog 22 #[.pointer (some ⟨d, 0, none⟩)] w fun e w' => e = .returned (.bool down) ∧ w = w' := by
  have c1 := h.disk.cell 1
  cases down
  all_goals
    go_enter Try.func22, Try.ntmps22
    go_wp2_with fail
    go_ret
    exact ⟨rfl, rfl⟩
set_option maxHeartbeats 1000000 in
theorem dsteps_any (w : World) {d b N : Nat} {F : ByteArray → Option Fl} {down fused : Bool} {left steps : Nat} (h : DSt w d b N F down fused left steps) :
    Calls Try.prog 26 #[.pointer (some ⟨d, 0, none⟩)] w fun e w' => e = .returned (.int .i64 steps) ∧ w = w' := by
  have c4 := h.disk.cell 4
  go_enter Try.func26, Try.ntmps26
  go_wp2_with fail
  go_ret
  exact ⟨rfl, rfl⟩
set_option maxHeartbeats 1000000 in
theorem dfuse_any (n : Int) (w : World) {d b N : Nat} {F : ByteArray → Option Fl} {down fused : Bool} {left steps : Nat} (h : DSt w d b N F down fused left steps) :
    Calls Try.prog 28 #[.pointer (some ⟨d, 0, none⟩), .int .i64 n] w fun e w' => e = .returned (.tuple #[]) ∧ DSt w' d b N F down (decide (0 ≤ n)) n.toNat steps ∧ Kp [d] w w' := by
  have c2 := h.disk.cell 2
  have c3 := h.disk.cell 3
  have f2 := h.disk.frozen 2
  by_cases hn : 0 ≤ n
  · have a1 := h.disk.set 2 (.bool true)
    have f3 := a1.frozen 3
    have q3 := a1.cell 3
    have a2 := a1.set 3 (.int .i64 n)
    have k2 : Kp [d] w ((w.setCell ⟨d, 2, none⟩ (.bool true)).setCell ⟨d, 3, none⟩ (.int .i64 n)) := ((Kp.rfl_ [d] w).set (by simp) _).set (by simp) _
    have H2 := Lib.hid (h.own (down' := down) (fused' := true) (left' := n.toNat) (steps' := steps) k2 (by rw [show ((n.toNat : Nat) : Int) = n by omega]; exact a2))
    rw [decide_eq_true hn]
    go_enter Try.func28, Try.ntmps28
    go_wp2_with fail
    go_end0
    exact ⟨rfl, H2.out, k2⟩
  · have a1 := h.disk.set 2 (.bool false)
    have f3 := a1.frozen 3
    have q3 := a1.cell 3
    have a2 := a1.set 3 (.int .i64 0)
    have k2 : Kp [d] w ((w.setCell ⟨d, 2, none⟩ (.bool false)).setCell ⟨d, 3, none⟩ (.int .i64 0)) := ((Kp.rfl_ [d] w).set (by simp) _).set (by simp) _
    have H2 := Lib.hid (h.own (down' := down) (fused' := false) (left' := n.toNat) (steps' := steps) k2 (by rw [show ((n.toNat : Nat) : Int) = 0 by omega]; exact a2))
    rw [decide_eq_false hn]
    go_enter Try.func28, Try.ntmps28
    go_wp2_with fail
    go_end0
    exact ⟨rfl, H2.out, k2⟩
end Go.Proofs.Ytnmogfjbbibeiaa
