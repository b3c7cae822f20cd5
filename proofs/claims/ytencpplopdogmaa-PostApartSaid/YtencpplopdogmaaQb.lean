import Derived.Test.YtencpplopdogmaaQa
namespace Go.Proofs.Ytencpplopdogmaa
set_option maxRecDepth 100000
open Go.RowKit
set_option linter.unusedVariables false
set_option maxHeartbeats 4000000 in
theorem ptake_any (g : Nat) (T : TypeId) (vk : Value) (most k : Int) (ls : List Ltr) (w : World) (h : Pst w g T vk most ls) (hl : ls.length ≤ 1000000) :
    Calls Try.prog 14 #[.pointer (some ⟨g, 0, none⟩), .int .i64 k] w (Taken w g T vk most k ls) := by
  obtain ⟨A, c, rfl⟩ := h.2.slice
  have hk : Kp [] w (w.alloc (.cells #[.int .i64 0, .int .i64 0, .string ⟨#[]⟩] 33)) := (Kp.rfl_ [] w).alloc _
  have b1 : At (w.alloc (.cells #[.int .i64 0, .int .i64 0, .string ⟨#[]⟩] 33)) w.heap.size 33 #[.int .i64 0, .int .i64 0, .string ⟨#[]⟩] := At.new w _ _
  have h1 : Pst (w.alloc (.cells #[.int .i64 0, .int .i64 0, .string ⟨#[]⟩] 33)) g T (.slice A ls.length c) most ls := ⟨h.1.kp hk (by simp), h.2.kp hk (by simp)⟩
  have hgo := h.1.lt
  have hob : ∀ x, (Value.slice A ls.length c).ownBlock = some x → x ≠ g ∧ x < w.heap.size := fun x hx => h.2.ob hx
  obtain ⟨gl, hgl⟩ : ∃ gl, w.heap.size = gl := ⟨_, rfl⟩
  rw [hgl] at b1
  obtain ⟨b, hb⟩ : ∃ b, thr ls k = b := ⟨_, rfl⟩
  go_enter Try.func14, Try.ntmps14
  go_wp2_with fail
  generalize w.alloc (.cells #[.int .i64 0, .int .i64 0, .string ⟨#[]⟩] 33) = w1 at *
  have d0 : w1.cell? ⟨gl, 0, none⟩ = some (.int .i64 0) := b1.cell 0
  have d1 : w1.cell? ⟨gl, 1, none⟩ = some (.int .i64 0) := b1.cell 1
  have d2 : w1.cell? ⟨gl, 2, none⟩ = some (.string ⟨#[]⟩) := b1.cell 2
  have f0 := b1.frozen 0
  have f1 := b1.frozen 1
  have f2 := b1.frozen 2
  refine (there_to g T (.slice A ls.length c) most k ls b w1 hb h1).mono ?_
  rintro e w2 ⟨rfl, rfl⟩
  cases b
  · have HAT := Lib.hid (thr_no hb)
    go_wp2_with fail
    refine bodyPost_ret (results_letter rfl _ _ _ _ _ _ rfl (((b1.set 0 (.int .i64 0)).set 1 (.int .i64 0)).set 2 (.string ⟨#[]⟩))) rfl ?_
    refine .inl ⟨by rw [HAT.out], rfl, Moved.of_kp h (hk.then ((((Kp.rfl_ [gl] w1).set (by simp) _).set (by simp) _).set (by simp) _) (by simp; omega))⟩
  obtain ⟨kn, l, rfl, hlt, hln, hat⟩ := thr_yes hb
  obtain ⟨gk, rfl, r0, r1, r2⟩ := h1.2.at_ hln
  have c0 : w1.cell? ⟨g, 0, none⟩ = some (.slice (some ⟨gk, 0, none⟩) ls.length c) := h1.1.cell 0
  have b2 : (kn : Int) < (ls.length : Int) := by omega
  have hgk := hob gk rfl
  have hsz := hk.size
  have hka : Kp [] w1 (w1.alloc (.cells #[.int .i64 l.f, .int .i64 l.t, .string l.d] 33)) := (Kp.rfl_ [] w1).alloc _
  have h2 : Pst (w1.alloc (.cells #[.int .i64 l.f, .int .i64 l.t, .string l.d] 33)) g T (.slice (some ⟨gk, 0, none⟩) ls.length c) most ls := ⟨h1.1.kp hka (by simp), h1.2.kp hka (by simp)⟩
  have c2 : (w1.alloc (.cells #[.int .i64 l.f, .int .i64 l.t, .string l.d] 33)).cell? ⟨g, 0, none⟩ = some (.slice (some ⟨gk, 0, none⟩) ls.length c) := h2.1.cell 0
  have b6 : At (w1.alloc (.cells #[.int .i64 l.f, .int .i64 l.t, .string l.d] 33)) w1.heap.size 33 #[.int .i64 l.f, .int .i64 l.t, .string l.d] := At.new w1 _ _
  have b4 := b1.kp hka (by simp)
  obtain ⟨m, hm⟩ : ∃ m, ls.length = kn + 1 + m := ⟨ls.length - (kn + 1), by omega⟩
  have hcc : ls.length ≤ c ∧ c ≤ maxLen := by
    rcases h1.2.1.shape with ⟨h3, _⟩ | ⟨_, c', h3, h4, h5, _⟩
    · cases h3
    · injection h3 with _ _ h3
      subst h3
      exact ⟨h4, h5⟩
  have hwr : IntKind.i64.wrap ((kn : Int) + 1) = (kn : Int) + 1 := by rw [IntKind.wrap_i64]; omega
  obtain ⟨g6, hg6⟩ : ∃ g6, w1.heap.size = g6 := ⟨_, rfl⟩
  rw [hg6] at b6
  have HAT := Lib.hid hat
  have HM := Lib.hid hm
  clear hat hb hm
  go_wp2_with fail
  generalize w1.alloc (.cells #[.int .i64 l.f, .int .i64 l.t, .string l.d] 33) = w3 at *
  refine (ldel_any 0 gk ls.length c kn m ls w3 rfl h2.2.1 HM.out hl hcc.1 hcc.2).mono ?_
  rintro e w4 ⟨rfl, hL4, hk4⟩
  have a4 : At w4 g T #[.slice (some ⟨gk, 0, none⟩) ls.length c, .int .i64 most] := h2.1.kp hk4 (by simp; omega)
  have b5 : At w4 gl 33 #[.int .i64 0, .int .i64 0, .string ⟨#[]⟩] := b4.kp hk4 (by simp; omega)
  have b7 : At w4 g6 33 #[.int .i64 l.f, .int .i64 l.t, .string l.d] := b6.kp hk4 (by simp; omega)
  have q0 := a4.cell 0
  have q1 := a4.frozen 0
  have m0 : (w4.setCell ⟨g, 0, none⟩ (.slice (some ⟨gk, 0, none⟩) (kn + m) c)).cell? ⟨g6, 0, none⟩ = some (.int .i64 l.f) := (b7.kp ((Kp.rfl_ [g] w4).set (by simp) _) (by simp; omega)).cell 0
  have m1 : (w4.setCell ⟨g, 0, none⟩ (.slice (some ⟨gk, 0, none⟩) (kn + m) c)).cell? ⟨g6, 1, none⟩ = some (.int .i64 l.t) := (b7.kp ((Kp.rfl_ [g] w4).set (by simp) _) (by simp; omega)).cell 1
  have m2 : (w4.setCell ⟨g, 0, none⟩ (.slice (some ⟨gk, 0, none⟩) (kn + m) c)).cell? ⟨g6, 2, none⟩ = some (.string l.d) := (b7.kp ((Kp.rfl_ [g] w4).set (by simp) _) (by simp; omega)).cell 2
  have b8 : At (w4.setCell ⟨g, 0, none⟩ (.slice (some ⟨gk, 0, none⟩) (kn + m) c)) gl 33 #[.int .i64 0, .int .i64 0, .string ⟨#[]⟩] := b5.kp ((Kp.rfl_ [g] w4).set (by simp) _) (by simp; omega)
  have n0 := b8.cell 0
  have n1 := b8.cell 1
  have n2 := b8.cell 2
  have g0 := b8.frozen 0
  have g1 := b8.frozen 1
  have g2 := b8.frozen 2
  have hk9 : Kp [g, gk] w w4 := ((hk.trans hka).mono (T := [g, gk]) (by simp)).then hk4 (by simp)
  clear hob
  go_wp2_with fail
  refine bodyPost_ret (results_letter rfl _ _ _ _ _ _ rfl (((b8.set 0 (.int .i64 l.f)).set 1 (.int .i64 l.t)).set 2 (.string l.d))) rfl ?_
  have k5 : Kp [g] w4 (w4.setCell ⟨g, 0, none⟩ (.slice (some ⟨gk, 0, none⟩) (kn + m) c)) := (Kp.rfl_ [g] w4).set (by simp) _
  have k6 : Kp [gl] (w4.setCell ⟨g, 0, none⟩ (.slice (some ⟨gk, 0, none⟩) (kn + m) c)) ((((w4.setCell ⟨g, 0, none⟩ (.slice (some ⟨gk, 0, none⟩) (kn + m) c)).setCell ⟨gl, 0, none⟩ (.int .i64 l.f)).setCell ⟨gl, 1, none⟩ (.int .i64 l.t)).setCell ⟨gl, 2, none⟩ (.string l.d)) :=
    (((Kp.rfl_ [gl] _).set (by simp) _).set (by simp) _).set (by simp) _
  refine .inr ⟨l, HAT.out, rfl, .slice (some ⟨gk, 0, none⟩) (kn + m) c, ⟨(a4.set 0 _).kp k6 (by simp; omega), (hL4.kp k5 (by simp [Value.ownBlock]; omega)).kp k6 (by simp [Value.ownBlock]; omega), by simp [Value.ownBlock]; omega⟩, ?_, fun x hx => .inl hx⟩
  exact (hk9.then k5 (by simp)).then k6 (by simp; omega)
end Go.Proofs.Ytencpplopdogmaa
