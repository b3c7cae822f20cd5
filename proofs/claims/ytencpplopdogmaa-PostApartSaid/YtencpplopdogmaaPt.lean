/- Package post: New, Len, Send. -/
import Derived.Test.YtencpplopdogmaaPs
namespace Go.Proofs.Ytencpplopdogmaa
set_option maxRecDepth 100000
open Go.RowKit
set_option linter.unusedVariables false

def isN (n : Int) : Bool := decide (0 ≤ n) && decide (n ≤ 6)
set_option maxHeartbeats 400000 in
theorem isNode_any (n : Int) (w : World) : Calls Try.prog 25 #[.int .i64 n] w fun e w' => e = .returned (.bool (isN n)) ∧ w = w' := by
  by_cases h : 0 ≤ n
  · go_enter Try.func25, Try.ntmps25
    go_wp2
    go_ret
    exact ⟨ret_bool (by simp [isN, h]), rfl⟩
  · go_enter Try.func25, Try.ntmps25
    go_wp2
    go_ret
    exact ⟨ret_bool (by unfold isN; rw [decide_eq_false (by omega : ¬ 0 ≤ n)]; rfl), rfl⟩
theorem isNode_to (n : Int) (b : Bool) (w : World) (h : isN n = b) : Calls Try.prog 25 #[.int .i64 n] w fun e w' => e = .returned (.bool b) ∧ w = w' := by
  rw [← h]
  exact isNode_any n w
def Newd (T : TypeId) (most : Int) (w : World) (e : Ending) (w' : World) : Prop :=
  ((1 ≤ most ∧ most ≤ 512) ∧ e = .returned (.tuple #[.pointer (some ⟨w.heap.size, 0, none⟩), .int .i64 0]) ∧ Pst w' w.heap.size T (.slice none 0 0) most [] ∧ Kp [] w w') ∨
  (¬ (1 ≤ most ∧ most ≤ 512) ∧ e = .returned (.tuple #[.pointer none, .int .i64 1]) ∧ w = w')
set_option maxHeartbeats 1000000 in
theorem pnew_any (most : Int) (w : World) : Calls Try.prog 7 #[.int .i64 most] w (Newd 58 most w) := by
  rcases (show most < 1 ∨ (1 ≤ most ∧ 512 < most) ∨ (1 ≤ most ∧ most ≤ 512) by omega) with h | ⟨h, h'⟩ | ⟨h, h'⟩
  · go_enter Try.func7, Try.ntmps7
    go_wp2
    go_ret2
    exact .inr ⟨by omega, rfl, rfl⟩
  · go_enter Try.func7, Try.ntmps7
    go_wp2
    go_ret2
    exact .inr ⟨by omega, rfl, rfl⟩
  · go_enter Try.func7, Try.ntmps7
    go_wp2
    go_ret2
    exact .inl ⟨⟨h, h'⟩, rfl, ⟨At.new w _ _, LRn.nil_ _ _⟩, (Kp.rfl_ _ _).alloc _⟩
set_option maxHeartbeats 1000000 in
theorem rpnew_any (most : Int) (w : World) : Calls Try.prog 8 #[.int .i64 most] w (Newd 48 most w) := by
  rcases (show most < 1 ∨ (1 ≤ most ∧ 512 < most) ∨ (1 ≤ most ∧ most ≤ 512) by omega) with h | ⟨h, h'⟩ | ⟨h, h'⟩
  · go_enter Try.func8, Try.ntmps8
    go_wp2
    go_ret2
    exact .inr ⟨by omega, rfl, rfl⟩
  · go_enter Try.func8, Try.ntmps8
    go_wp2
    go_ret2
    exact .inr ⟨by omega, rfl, rfl⟩
  · go_enter Try.func8, Try.ntmps8
    go_wp2
    go_ret2
    exact .inl ⟨⟨h, h'⟩, rfl, ⟨At.new w _ _, LRn.nil_ _ _⟩, (Kp.rfl_ _ _).alloc _⟩
set_option maxHeartbeats 1000000 in
theorem plen_any (g : Nat) (T : TypeId) (vk : Value) (most : Int) (ls : List Ltr) (w : World) (h : Pst w g T vk most ls) : Calls Try.prog 15 #[.pointer (some ⟨g, 0, none⟩)] w fun e w' => e = .returned (.int .i64 ls.length) ∧ w = w' := by
  obtain ⟨A, c, rfl⟩ := h.2.slice
  have c0 : w.cell? ⟨g, 0, none⟩ = some (.slice A ls.length c) := h.1.cell 0
  go_enter Try.func15, Try.ntmps15
  go_wp2_with fail
  go_ret
  exact ⟨rfl, rfl⟩
set_option maxHeartbeats 1000000 in
theorem plen_nil (w : World) : Calls Try.prog 15 #[.pointer none] w fun e w' => e = .returned (.int .i64 0) ∧ w = w' := by
  go_enter Try.func15, Try.ntmps15
  go_wp2_with fail
  go_ret
  exact ⟨rfl, rfl⟩
set_option maxHeartbeats 1000000 in
theorem psend_nil (l : Ltr) (w : World) : Calls Try.prog 13 #[.pointer none, .agg #[.int .i64 l.f, .int .i64 l.t, .string l.d]] w fun e w' => e = .returned (.int .i64 2) ∧ Kp [] w w' := by
  go_enter Try.func13, Try.ntmps13
  go_wp2_with fail
  go_ret
  exact ⟨rfl, (Kp.rfl_ _ _).alloc _⟩
def Sent (w : World) (g : Nat) (T : TypeId) (vk : Value) (most : Int) (ls : List Ltr) (l : Ltr) (e : Ending) (w' : World) : Prop :=
  (¬ (isN l.f = true ∧ isN l.t = true) ∧ e = .returned (.int .i64 1) ∧ Moved w g T vk most ls w') ∨ ((isN l.f = true ∧ isN l.t = true) ∧ Added w g T vk most ls l e w')
theorem Added.before {w w1 w' : World} {g : Nat} {T : TypeId} {vk : Value} {most : Int} {ls : List Ltr} {l : Ltr} {e : Ending} (h : Added w1 g T vk most ls l e w') (k : Kp [] w w1) : Added w g T vk most ls l e w' :=
  h.imp (fun ⟨a, b, c⟩ => ⟨a, b, c.before k⟩) fun ⟨a, b, c⟩ => ⟨a, b, c.before k⟩
theorem Sent.ret {w w' : World} {g : Nat} {T : TypeId} {vk : Value} {most : Int} {ls : List Ltr} {l : Ltr} {e : Ending} (h : Sent w g T vk most ls l e w') : ∃ r, e = .returned (.int .i64 r) := by
  rcases h with ⟨_, h, _⟩ | ⟨_, h⟩
  · exact ⟨_, h⟩
  · exact h.ret
theorem Sent.ret' {w : World} {g : Nat} {T : TypeId} {vk : Value} {most : Int} {ls : List Ltr} {l : Ltr} (e : Ending) (w' : World) (h : Sent w g T vk most ls l e w') : ∃ v, e = .returned v := by
  obtain ⟨r, h⟩ := h.ret
  exact ⟨_, h⟩
set_option maxHeartbeats 4000000 in
theorem psend_any (g : Nat) (T : TypeId) (vk : Value) (most : Int) (ls : List Ltr) (l : Ltr) (w : World) (h : Pst w g T vk most ls) (hl : ls.length ≤ 1000000) :
    Calls Try.prog 13 #[.pointer (some ⟨g, 0, none⟩), .agg #[.int .i64 l.f, .int .i64 l.t, .string l.d]] w (Sent w g T vk most ls l) := by
  have hk1 : Kp [] w (w.alloc (.cells #[.int .i64 l.f, .int .i64 l.t, .string l.d] 33)) := (Kp.rfl_ [] w).alloc _
  have b1 : At (w.alloc (.cells #[.int .i64 l.f, .int .i64 l.t, .string l.d] 33)) w.heap.size 33 #[.int .i64 l.f, .int .i64 l.t, .string l.d] := At.new w _ _
  obtain ⟨gl, hgl⟩ : ∃ gl, w.heap.size = gl := ⟨_, rfl⟩
  obtain ⟨bf, hbf⟩ : ∃ b, isN l.f = b := ⟨_, rfl⟩
  obtain ⟨bt, hbt⟩ : ∃ b, isN l.t = b := ⟨_, rfl⟩
  go_enter Try.func13, Try.ntmps13
  go_wp2_with fail
  generalize w.alloc (.cells #[.int .i64 l.f, .int .i64 l.t, .string l.d] 33) = w1 at *
  rw [hgl] at b1
  have c0 : w1.cell? ⟨gl, 0, none⟩ = some (.int .i64 l.f) := b1.cell 0
  have c1 : w1.cell? ⟨gl, 1, none⟩ = some (.int .i64 l.t) := b1.cell 1
  have c2 : w1.cell? ⟨gl, 2, none⟩ = some (.string l.d) := b1.cell 2
  have h1 : Pst w1 g T vk most ls := ⟨h.1.kp hk1 (by simp), h.2.kp hk1 (by simp)⟩
  refine (isNode_to l.f bf w1 hbf).mono ?_
  rintro e w2 ⟨rfl, rfl⟩
  cases bf
  · go_wp2_with fail
    go_ret
    exact .inl ⟨by simp [hbf], rfl, Moved.of_kp h hk1⟩
  go_wp2_with fail
  refine (isNode_to l.t bt w1 hbt).mono ?_
  rintro e w2 ⟨rfl, rfl⟩
  cases bt
  · go_wp2_with fail
    go_ret
    exact .inl ⟨by simp [hbt], rfl, Moved.of_kp h hk1⟩
  go_wp2_with fail
  have hd : Kp [] w1 w1.drew := (Kp.rfl_ [] w1).drew
  have c0 : w1.drew.cell? ⟨gl, 0, none⟩ = some (.int .i64 l.f) := c0
  have c1 : w1.drew.cell? ⟨gl, 1, none⟩ = some (.int .i64 l.t) := c1
  have c2 : w1.drew.cell? ⟨gl, 2, none⟩ = some (.string l.d) := c2
  refine region_sq_l (by kernel_rfl) (by kernel_rfl) (calm_of (fun _ _ _ h => h.2) (fun _ _ h => h) Sent.ret') ?_
  go_wp2_with fail
  refine (padd_any g T vk most ls l w1.drew (h1.kp hd (by simp) (by simp)) hl).mono ?_
  intro e w8 h8
  have h9 := h8.before (hk1.trans hd)
  obtain ⟨r, rfl⟩ := h8.ret
  go_wp2_with fail
  refine sqQ_end (by rfl) ?_
  go_wp2_with fail
  go_ret
  exact .inr ⟨⟨hbf, hbt⟩, h9⟩
end Go.Proofs.Ytencpplopdogmaa
