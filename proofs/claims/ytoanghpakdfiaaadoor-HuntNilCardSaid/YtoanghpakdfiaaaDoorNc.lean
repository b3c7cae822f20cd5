/- Package hunt: HuntNil. -/
import Derived.Test.YtoanghpakdfiaaaDoorNb
namespace Go.Proofs.YtoanghpakdfiaaaDoor
set_option maxRecDepth 100000
open Go.RowKit
set_option linter.unusedVariables false

theorem wpl_copy_str_g {ops : Array Oper} {rest : List Oper} {o : Oper} {a : Act} {Q : Exit → Act → World → Prop} (w0 : World) (hw : Region.wanted o (yielded ops a.tmps) = true) (s x : Operand)
    (ho : o.op = .call { callee := .builtin .append, args := #[s, x], argTypes := #[22, 22] }) (A : Option Addr) (n c : Nat) (zs : List ByteArray)
    (hs : a.eval s = .slice (some ⟨w0.heap.size, 0, none⟩) 0 0) (hx : a.eval x = .slice A n c) (hr : Ls w0 A n (zs.map Value.string)) (hn : n * 16 ≤ 140737488355328)
    (h : ∀ v' w', w'.ownsRow w0.heap.size 9 1 v' n (zs.map Value.string) → Kp [] w0 w' → wpList Tryd.prog ops Q rest (a.put o.dst v') w') :
    wpList Tryd.prog ops Q (o :: rest) a (w0.alloc (.cells #[] 9)) := by
  obtain ⟨i0, hi, hz, h1, h2⟩ := info_parts info_string
  refine wpl_app_g _ hw s x 22 ho w0.heap.size 9 i0 _ 16 Tryd.underlying22 hi hz h1 h2 rfl _ 0 [] hs (own_empty w0 _) A n c _ hx
    (hr.kp ((Kp.rfl_ [] w0).alloc _) (by simp)) oneCell_map_string (by unfold maxLen; omega) (by omega) (by simp) ?_
  intro v' w' hown hg _
  rw [Nat.zero_add] at hown
  refine h v' w' hown (((Kp.rfl_ [] w0).alloc _).then (Kp.of_grown (S := [w0.heap.size]) hg ?_) (by simp))
  intro k hk _
  simp [Value.ownBlock] at hk
  simp [hk]
set_option maxHeartbeats 400000 in
theorem htick_nil (v : Value) (w : World) : Calls Tryd.prog 6 #[.pointer none, v] w fun e w' => e = .returned (.tuple #[.int .i64 (-1), .slice none 0 0]) ∧ w = w' := by
  go_enter Tryd.func6, Tryd.ntmps6
  go_wp2_with fail
  go_ret2
  exact ⟨rfl, rfl⟩
set_option maxHeartbeats 400000 in
theorem hturn_nil (w : World) : Calls Tryd.prog 7 #[.pointer none] w fun e w' => e = .returned (.int .i64 0) ∧ w = w' := by
  go_enter Tryd.func7, Tryd.ntmps7
  go_wp2_with fail
  go_ret
  exact ⟨rfl, rfl⟩
set_option maxHeartbeats 400000 in
theorem hcopy_nil (w : World) : Calls Tryd.prog 8 #[.pointer none] w fun e w' => e = .returned (.pointer none) ∧ w = w' := by
  go_enter Tryd.func8, Tryd.ntmps8
  go_wp2_with fail
  go_ret
  exact ⟨rfl, rfl⟩
set_option maxHeartbeats 400000 in
theorem vget_nil (s : ByteArray) (w : World) : Calls Tryd.prog 12 #[.pointer none, .string s] w fun e w' => e = .returned (.tuple #[.string ⟨#[]⟩, .int .i64 2]) ∧ w = w' := by
  go_enter Tryd.func12, Tryd.ntmps12
  go_wp2_with fail
  go_ret2
  exact ⟨rfl, rfl⟩
set_option maxHeartbeats 4000000 in
theorem hserve_nil (A : Option Addr) (n c : Nat) (ss : List ByteArray) (w : World) (hL : Ls w A n (ss.map Value.string)) (hnm : n ≤ 4096) :
    Calls Tryd.prog 9 #[.pointer none, .pointer none, .slice A n c] w fun e w' => e = .returned (.slice none 0 0) ∧ w = w' := by
  go_enter Tryd.func9, Tryd.ntmps9
  go_wp2_with fail
  go_loopg [7, 14] n (fun gk v i wr => ∃ m : Nat, n - m ≤ gk ∧ i = .int .i64 m ∧ m ≤ n ∧ v = .slice none 0 0 ∧ w = wr)
  case atStart => exact ⟨0, by omega, rfl, Nat.zero_le _, rfl, rfl⟩
  case round =>
    obtain ⟨m, hgk, rfl, hm, rfl, rfl⟩ := hrel
    by_cases hlt : m < n
    · obtain ⟨ad, z, rfl, hz, hcz⟩ := hL.str_at hlt
      have b2 : (m : Int) < (n : Int) := by omega
      go_wp2_with fail
      refine (vget_nil z w).mono ?_
      rintro e w2 ⟨rfl, rfl⟩
      go_wp2_with fail
      go_roundg (n - (m + 1))
      case measure => omega
      case rel => exact ⟨m + 1, by omega, by go_num, by omega, rfl, rfl⟩
    · go_wp2_with fail
      go_ret
      exact ⟨rfl, rfl⟩
set_option maxHeartbeats 4000000 in
theorem hnil_walk {X : Prop} (v0 : Value) (w : World) (hl : X) (i0 : In w 22 v0) : Calls Tryd.prog 3 #[v0] w (Yes w) := by
  obtain ⟨A, n, c, ss, rfl, hn, hc, hL, _⟩ := in_strs i0
  have hnm : n ≤ maxLen := Nat.le_trans hn hc
  clear i0
  go_enter Tryd.func3, Tryd.ntmps3
  go_wp2_with fail
  refine (hawake_any w).mono ?_
  rintro e w1 ⟨rfl, hk1⟩
  have hL1 := hL.kp hk1 (by simp)
  go_wp2_with fail
  refine (many_any A n c ss w1 hL1 hnm).mono ?_
  rintro e w2 ⟨⟨b, rfl, hb⟩, rfl⟩
  cases b
  rotate_left
  · go_wp2_with fail
    refine (hawake_any w1).mono ?_
    rintro e w2 ⟨rfl, hk2⟩
    go_wp2_with fail
    go_ret
    exact ⟨rfl, hk1.trans hk2⟩
  have hn4 := hb rfl
  go_wp2_with (at_builtin; refine wpl_copy_str w1 rfl _ _ rfl A n c ss rfl rfl hL1 (by omega) ?_; intro v3 w3 hown3 hk3)
  refine (htick_nil v3 w3).mono ?_
  rintro e w4 ⟨rfl, rfl⟩
  go_wp2_with fail
  refine (hturn_nil w3).mono ?_
  rintro e w4 ⟨rfl, rfl⟩
  go_wp2_with fail
  refine (hcopy_nil w3).mono ?_
  rintro e w4 ⟨rfl, rfl⟩
  have hL3 := hL1.kp hk3 (by simp)
  go_wp2_with (at_builtin; refine wpl_copy_str_g w3 rfl _ _ rfl A n c ss rfl rfl hL3 (by omega) ?_; intro v5 w5 hown5 hk5; obtain ⟨A5, c5, rfl, hL5, -⟩ := own_open hown5)
  refine (hserve_nil A5 n c5 ss w5 hL5 hn4).mono ?_
  rintro e w6 ⟨rfl, rfl⟩
  go_wp2_with fail
  go_ret
  exact ⟨rfl, (hk1.trans hk3).trans hk5⟩
end Go.Proofs.YtoanghpakdfiaaaDoor
