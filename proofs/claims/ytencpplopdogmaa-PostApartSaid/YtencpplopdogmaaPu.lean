/- The document's own Send. -/
import Derived.Test.YtencpplopdogmaaPt
namespace Go.Proofs.Ytencpplopdogmaa
set_option maxRecDepth 100000
open Go.RowKit
set_option linter.unusedVariables false

theorem isN_no {n : Int} (h : isN n = false) : n < 0 ∨ (0 ≤ n ∧ 6 < n) := by
  unfold isN at h
  simp only [Bool.and_eq_false_iff, decide_eq_false_iff_not] at h
  omega
theorem isN_yes {n : Int} (h : isN n = true) : 0 ≤ n ∧ n ≤ 6 := by
  unfold isN at h
  simpa using h
set_option maxRecDepth 100000 in
set_option maxHeartbeats 8000000 in
theorem rpsend_any (g : Nat) (T : TypeId) (vk : Value) (most : Int) (ls : List Ltr) (l : Ltr) (w : World) (h : Pst w g T vk most ls) (hl : ls.length ≤ 1000000) :
    Calls Try.prog 20 #[.pointer (some ⟨g, 0, none⟩), .agg #[.int .i64 l.f, .int .i64 l.t, .string l.d]] w (Sent w g T vk most ls l) := by
  obtain ⟨A, c, rfl⟩ := h.2.slice
  have hk1 : Kp [] w (w.alloc (.cells #[.int .i64 l.f, .int .i64 l.t, .string l.d] 33)) := (Kp.rfl_ [] w).alloc _
  have b1 : At (w.alloc (.cells #[.int .i64 l.f, .int .i64 l.t, .string l.d] 33)) w.heap.size 33 #[.int .i64 l.f, .int .i64 l.t, .string l.d] := At.new w _ _
  have a1 := h.1.kp hk1 (by simp)
  have o1 := h.2.kp hk1 (by simp)
  have hg := h.1.lt
  obtain ⟨gl, hgl⟩ : ∃ gl, w.heap.size = gl := ⟨_, rfl⟩
  have hc0 := b1.cell 0
  have hc1 := b1.cell 1
  by_cases hbf : isN l.f = true
  rotate_left
  · have hn := isN_no (by simpa using hbf)
    rcases hn with hn | ⟨hn, hn'⟩
    all_goals
      clear hc0 hc1
      go_enter Try.func20, Try.ntmps20
      go_wp2_with fail
      go_ret
      exact .inl ⟨fun hh => hbf hh.1, rfl, Moved.of_kp h hk1⟩
  by_cases hbt : isN l.t = true
  rotate_left
  · have hy := isN_yes hbf
    obtain ⟨hy1, hy2⟩ := hy
    have hn := isN_no (by simpa using hbt)
    rcases hn with hn | ⟨hn, hn'⟩
    all_goals
      clear hc0 hc1
      go_enter Try.func20, Try.ntmps20
      go_wp2_with fail
      go_ret
      exact .inl ⟨fun hh => hbt hh.2, rfl, Moved.of_kp h hk1⟩
  obtain ⟨hy1, hy2⟩ := isN_yes hbf
  obtain ⟨hy3, hy4⟩ := isN_yes hbt
  clear hc0 hc1
  have hcase : (ls.length : Int) < most ∨ ¬ (ls.length : Int) < most := by omega
  have h1 := h.kp hk1 (by simp) (by simp)
  rw [hgl] at b1
  go_enter Try.func20, Try.ntmps20
  go_wp2_with fail
  generalize w.alloc (.cells #[.int .i64 l.f, .int .i64 l.t, .string l.d] 33) = w0 at *
  have c0 : w0.drew.cell? ⟨g, 0, none⟩ = some (.slice A ls.length c) := h1.1.cell 0
  have c1 : w0.drew.cell? ⟨g, 1, none⟩ = some (.int .i64 most) := h1.1.cell 1
  refine region_sq_l (by kernel_rfl) (by kernel_rfl) (calm_of (fun _ _ _ h => h.2) (fun _ _ h => h) Sent.ret') ?_
  rcases hcase with hlt | hlt
  · go_wp2_with fail
    refine sqQ_end (by rfl) ?_
    have hd : Kp [] w0 w0.drew := (Kp.rfl_ [] w0).drew
    have h2 := h1.kp hd (by simp) (by simp)
    have b2 := b1.kp hd (by simp)
    have hk2 := hk1.trans hd
    clear c0 c1 h1 b1 hk1 hd
    generalize w0.drew = w1 at *
    have hd : Kp [] w1 w1.drew := (Kp.rfl_ [] w1).drew
    have h3 := h2.kp hd (by simp) (by simp)
    have b3 := b2.kp hd (by simp)
    have c0 := h3.1.cell 0
    have d0 := b3.cell 0
    have d1 := b3.cell 1
    have d2 := b3.cell 2
    go_wp2_with fail
    refine region_sq_l (by kernel_rfl) (by kernel_rfl) (calm_of (fun _ _ _ h => h.2) (fun _ _ h => h) Sent.ret') ?_
    go_wp2_with (at_builtin; go_must (refine wpl_lapp 0 rfl _ _ rfl rfl (.slice A ls.length c) ls l rfl h3.2.1 rfl (Nat.zero_le _) hl ?_); intro v6 w6 hrow6 hk6 hv6; have hN := Moved.stored h3 hrow6 hk6 hv6; have ha6 : At w6 g T #[.slice A ls.length c, .int .i64 most] := h3.1.kp hk6 (by simp; intro e; exact h3.2.2 e); have q0 := ha6.cell 0; have f0 := ha6.frozen 0; obtain ⟨A6, c6, rfl⟩ := hrow6.slice)
    refine sqQ_end (by rfl) ?_
    go_wp2_with fail
    go_ret
    have h9 := hN.before (hk2.trans hd)
    simp only [List.length_append, List.length_cons, List.length_nil, Nat.zero_add] at h9
    exact .inr ⟨⟨hbf, hbt⟩, .inl ⟨by omega, rfl, h9⟩⟩
  · go_wp2_with fail
    refine sqQ_end (by rfl) ?_
    go_wp2_with fail
    go_ret
    exact .inr ⟨⟨hbf, hbt⟩, .inr ⟨by omega, rfl, Moved.of_kp h hk1.drew⟩⟩
end Go.Proofs.Ytencpplopdogmaa
