/- Package pack: the reader. -/
import Derived.Test.YtencjlkmpodghaaPkN
import Derived.Laws.EntriesVeiled
namespace Go.Proofs.Ytencjlkmpodghaa
set_option maxRecDepth 100000
open Go.RowKit
set_option linter.unusedVariables false

def Rdr (w : World) (g : Nat) (s : ByteArray) (sp : Bool) : Prop := At w g 71 #[.string s, .bool sp]
theorem Rdr.cells {w : World} {g : Nat} {s : ByteArray} {sp : Bool} (h : Rdr w g s sp) :
    w.cell? ⟨g, 0, none⟩ = some (.string s) ∧ w.cell? ⟨g, 1, none⟩ = some (.bool sp) ∧ w.frozen? ⟨g, 0, none⟩ = false ∧ w.frozen? ⟨g, 1, none⟩ = false ∧ g < w.heap.size :=
  ⟨(At.cell h 0).trans rfl, (At.cell h 1).trans rfl, At.frozen h 0, At.frozen h 1, At.lt h⟩
def Rp (g : Nat) : Value := .pointer (some ⟨g, 0, none⟩)

set_option maxHeartbeats 400000 in
theorem read_any (s : ByteArray) (w : World) : Calls Try.prog 21 #[.string s] w fun e w' => e = .returned (.pointer (some ⟨w.heap.size, 0, none⟩)) ∧ Rdr w' w.heap.size s false ∧ Kp [] w w' := by
  go_enter Try.func21, Try.ntmps21
  go_wp2
  go_ret
  exact ⟨rfl, At.new _ _ _, (Kp.rfl_ _ _).alloc _⟩
set_option maxHeartbeats 400000 in
theorem good_any (g : Nat) (s : ByteArray) (sp : Bool) (w : World) (h : Rdr w g s sp) : Calls Try.prog 29 #[.pointer (some ⟨g, 0, none⟩)] w fun e w' => e = .returned (.bool (!sp)) ∧ w = w' := by
  obtain ⟨c0, c1, f0, f1, hlt⟩ := h.cells
  go_enter Try.func29, Try.ntmps29
  go_wp2
  go_ret
  exact ⟨rfl, rfl⟩
set_option maxHeartbeats 400000 in
theorem good_nil (w : World) : Calls Try.prog 29 #[.pointer none] w fun e w' => e = .returned (.bool false) ∧ w = w' := by
  go_enter Try.func29, Try.ntmps29
  go_wp2
  go_ret
  exact ⟨rfl, rfl⟩
set_option maxHeartbeats 400000 in
theorem left_any (g : Nat) (s : ByteArray) (sp : Bool) (w : World) (h : Rdr w g s sp) : Calls Try.prog 32 #[.pointer (some ⟨g, 0, none⟩)] w fun e w' => e = .returned (.int .i64 s.size) ∧ w = w' := by
  obtain ⟨c0, c1, f0, f1, hlt⟩ := h.cells
  go_enter Try.func32, Try.ntmps32
  go_wp2
  go_ret
  exact ⟨rfl, rfl⟩
set_option maxHeartbeats 400000 in
theorem left_nil (w : World) : Calls Try.prog 32 #[.pointer none] w fun e w' => e = .returned (.int .i64 0) ∧ w = w' := by
  go_enter Try.func32, Try.ntmps32
  go_wp2
  go_ret
  exact ⟨rfl, rfl⟩
set_option maxHeartbeats 400000 in
theorem spoil_any (g : Nat) (s : ByteArray) (sp : Bool) (w : World) (h : Rdr w g s sp) : Calls Try.prog 28 #[.pointer (some ⟨g, 0, none⟩)] w fun e w' => e = .returned (.tuple #[]) ∧ Rdr w' g s true ∧ Kp [g] w w' := by
  obtain ⟨c0, c1, f0, f1, hlt⟩ := h.cells
  go_enter Try.func28, Try.ntmps28
  go_wp2
  go_end0
  exact ⟨rfl, At.set h 1 _, (Kp.rfl_ _ _).set (by simp) _⟩
set_option maxHeartbeats 400000 in
theorem spoil_nil (w : World) : Calls Try.prog 28 #[.pointer none] w fun e w' => e = .returned (.tuple #[]) ∧ w = w' := by
  go_enter Try.func28, Try.ntmps28
  go_wp2
  go_end0
  exact ⟨rfl, rfl⟩
set_option maxHeartbeats 400000 in
theorem done_any (g : Nat) (s : ByteArray) (sp : Bool) (w : World) (h : Rdr w g s sp) : Calls Try.prog 30 #[.pointer (some ⟨g, 0, none⟩)] w fun e w' => e = .returned (.bool (!sp && s.size == 0)) ∧ w = w' := by
  cases sp
  all_goals
    go_enter Try.func30, Try.ntmps30
    go_wp2_with fail
    refine (good_any g s _ _ h).mono ?_
    rintro e w1 ⟨rfl, rfl⟩
    go_wp2_with (go_at_call 32; refine (left_any g s _ _ h).mono ?_; rintro e w1 ⟨rfl, rfl⟩)
    go_ret
    exact ⟨ret_bool (by first | rfl | (rw [Bool.eq_iff_iff]; simp)), rfl⟩
set_option maxHeartbeats 400000 in
theorem done_nil (w : World) : Calls Try.prog 30 #[.pointer none] w fun e w' => e = .returned (.bool false) ∧ w = w' := by
  go_enter Try.func30, Try.ntmps30
  go_wp2_with fail
  refine (good_nil _).mono ?_
  rintro e w1 ⟨rfl, rfl⟩
  go_wp2_with fail
  go_ret
  exact ⟨rfl, rfl⟩
set_option maxHeartbeats 1000000 in
theorem num_nil (w : World) : Calls Try.prog 22 #[.pointer none] w fun e w' => e = .returned (.int .i64 0) ∧ Kp [] w w' := by
  go_enter Try.func22, Try.ntmps22
  go_wp2_with (first | (go_at_call 29; refine (good_nil _).mono ?_; rintro e w1 ⟨rfl, rfl⟩) | go_in)
  refine bodyPost_ret (results_none rfl _ _ _) rfl ?_
  go_wp2_with fail
  go_ret
  exact ⟨rfl, (Kp.rfl_ _ _).alloc _⟩
set_option maxHeartbeats 1000000 in
theorem num_yes (g : Nat) (s : ByteArray) (n : Int) (u : Nat) (w : World) (h : Rdr w g s false) (hd : decN s.data.toList = (n, u)) (hu : 0 < u) (hus : u ≤ s.size) (hs : s.size ≤ 1000000000) :
    Calls Try.prog 22 #[.pointer (some ⟨g, 0, none⟩)] w fun e w' => e = .returned (.int .i64 n) ∧ Rdr w' g (s.extract u s.size) false ∧ Kp [g] w w' := by
  obtain ⟨c0, c1, f0, f1, hlt⟩ := h.cells
  have hne : g ≠ w.heap.size := by omega
  have h1 : Rdr (w.alloc (.cells #[.int .i64 0] 3)) g s false := At.alloc h _
  have HD := Lib.hid hd
  clear hd
  go_enter Try.func22, Try.ntmps22
  go_wp2_with (first | (go_at_call 29; refine (good_any g s _ _ h1).mono ?_; rintro e w1 ⟨rfl, rfl⟩) | (go_at_call 49; refine (number_to s n u _ HD.out hs).mono ?_; rintro e w1 ⟨rfl, rfl⟩) | go_in)
  go_end0
  go_wp2_with fail
  go_ret
  exact ⟨rfl, At.alloc (At.set h 0 _) _, ((Kp.rfl_ _ _).set (by simp) _).alloc _⟩
set_option maxHeartbeats 1000000 in
theorem num_no (g : Nat) (s : ByteArray) (w : World) (h : Rdr w g s false) (hd : decN s.data.toList = (0, 0)) (hs : s.size ≤ 1000000000) :
    Calls Try.prog 22 #[.pointer (some ⟨g, 0, none⟩)] w fun e w' => e = .returned (.int .i64 0) ∧ Rdr w' g s true ∧ Kp [g] w w' := by
  obtain ⟨c0, c1, f0, f1, hlt⟩ := h.cells
  have hne : g ≠ w.heap.size := by omega
  have h1 : Rdr (w.alloc (.cells #[.int .i64 0] 3)) g s false := At.alloc h _
  have HD := Lib.hid hd
  clear hd
  go_enter Try.func22, Try.ntmps22
  go_wp2_with (first | (go_at_call 29; refine (good_any g s _ _ h1).mono ?_; rintro e w1 ⟨rfl, rfl⟩) | (go_at_call 49; refine (number_to s 0 0 _ HD.out hs).mono ?_; rintro e w1 ⟨rfl, rfl⟩) | go_in)
  refine bodyPost_ret (results_none rfl _ _ _) rfl ?_
  go_wp2_with fail
  go_ret
  exact ⟨rfl, At.alloc (At.set h 1 _) _, ((Kp.rfl_ _ _).set (by simp) _).alloc _⟩
set_option maxHeartbeats 1000000 in
theorem num_bad (g : Nat) (s : ByteArray) (w : World) (h : Rdr w g s true) :
    Calls Try.prog 22 #[.pointer (some ⟨g, 0, none⟩)] w fun e w' => e = .returned (.int .i64 0) ∧ Rdr w' g s true ∧ Kp [g] w w' := by
  obtain ⟨c0, c1, f0, f1, hlt⟩ := h.cells
  have h1 : Rdr (w.alloc (.cells #[.int .i64 0] 3)) g s true := At.alloc h _
  go_enter Try.func22, Try.ntmps22
  go_wp2_with (first | (go_at_call 29; refine (good_any g s _ _ h1).mono ?_; rintro e w1 ⟨rfl, rfl⟩) | go_in)
  refine bodyPost_ret (results_none rfl _ _ _) rfl ?_
  go_wp2_with fail
  go_ret
  exact ⟨rfl, At.alloc h _, (Kp.rfl_ _ _).alloc _⟩
set_option maxHeartbeats 1000000 in
theorem text_nil (w : World) : Calls Try.prog 24 #[.pointer none] w fun e w' => e = .returned (.string ⟨#[]⟩) ∧ Kp [] w w' := by
  go_enter Try.func24, Try.ntmps24
  go_wp2_with (first | (go_at_call 29; refine (good_nil _).mono ?_; rintro e w1 ⟨rfl, rfl⟩) | go_in)
  refine bodyPost_ret (results_none rfl _ _ _) rfl ?_
  go_wp2_with fail
  go_ret
  exact ⟨rfl, (Kp.rfl_ _ _).alloc _⟩
set_option maxHeartbeats 1000000 in
theorem text_bad (g : Nat) (s : ByteArray) (w : World) (h : Rdr w g s true) :
    Calls Try.prog 24 #[.pointer (some ⟨g, 0, none⟩)] w fun e w' => e = .returned (.string ⟨#[]⟩) ∧ Rdr w' g s true ∧ Kp [g] w w' := by
  obtain ⟨c0, c1, f0, f1, hlt⟩ := h.cells
  have h1 : Rdr (w.alloc (.cells #[.string ⟨#[]⟩] 9)) g s true := At.alloc h _
  go_enter Try.func24, Try.ntmps24
  go_wp2_with (first | (go_at_call 29; refine (good_any g s _ _ h1).mono ?_; rintro e w1 ⟨rfl, rfl⟩) | go_in)
  refine bodyPost_ret (results_none rfl _ _ _) rfl ?_
  go_wp2_with fail
  go_ret
  exact ⟨rfl, At.alloc h _, (Kp.rfl_ _ _).alloc _⟩
/-- A number is there, and so many bytes behind it. -/
def TextOk (s : ByteArray) (n : Int) (u : Nat) : Prop := 0 < u ∧ u ≤ s.size ∧ 0 ≤ n ∧ n ≤ (s.size : Int) - u
set_option maxHeartbeats 1000000 in
theorem text_yes (g : Nat) (s : ByteArray) (n u : Nat) (w : World) (h : Rdr w g s false) (hd : decN s.data.toList = ((n : Int), u)) (hu : 0 < u) (hn : u + n ≤ s.size) (hs : s.size ≤ 1000000000) :
    Calls Try.prog 24 #[.pointer (some ⟨g, 0, none⟩)] w fun e w' => e = .returned (.string (s.extract u (u + n))) ∧ Rdr w' g (s.extract (u + n) s.size) false ∧ Kp [g] w w' := by
  obtain ⟨c0, c1, f0, f1, hlt⟩ := h.cells
  have hne : g ≠ w.heap.size := by omega
  have h1 : Rdr (w.alloc (.cells #[.string ⟨#[]⟩] 9)) g s false := At.alloc h _
  have HD := Lib.hid hd
  have hub : ((u : Int) == 0) = false := by rw [beq_eq_false_iff_ne]; omega
  clear hd
  go_enter Try.func24, Try.ntmps24
  go_wp2_with (first | (go_at_call 29; refine (good_any g s _ _ h1).mono ?_; rintro e w1 ⟨rfl, rfl⟩) | (go_at_call 49; refine (number_to s n u _ HD.out hs).mono ?_; rintro e w1 ⟨rfl, rfl⟩) | go_in)
  go_end0
  go_wp2_with fail
  go_ret
  exact ⟨rfl, At.alloc (At.set h 0 _) _, ((Kp.rfl_ _ _).set (by simp) _).alloc _⟩
set_option maxHeartbeats 1000000 in
theorem text_no (g : Nat) (s : ByteArray) (n : Int) (u : Nat) (w : World) (h : Rdr w g s false) (hd : decN s.data.toList = (n, u)) (hno : u = 0 ∨ (0 < u ∧ n < 0) ∨ (0 < u ∧ 0 ≤ n ∧ (s.size : Int) - u < n)) (hus : u ≤ s.size) (hs : s.size ≤ 1000000000) :
    Calls Try.prog 24 #[.pointer (some ⟨g, 0, none⟩)] w fun e w' => e = .returned (.string ⟨#[]⟩) ∧ Rdr w' g s true ∧ Kp [g] w w' := by
  obtain ⟨c0, c1, f0, f1, hlt⟩ := h.cells
  have hne : g ≠ w.heap.size := by omega
  have h1 : Rdr (w.alloc (.cells #[.string ⟨#[]⟩] 9)) g s false := At.alloc h _
  have HD := Lib.hid hd
  clear hd
  rcases hno with h0 | ⟨h0, h2⟩ | ⟨h0, h2, h3⟩
  · have hub : ((u : Int) == 0) = true := by rw [beq_iff_eq]; omega
    clear h0
    go_enter Try.func24, Try.ntmps24
    go_wp2_with (first | (go_at_call 29; refine (good_any g s _ _ h1).mono ?_; rintro e w1 ⟨rfl, rfl⟩) | (go_at_call 49; refine (number_to s n u _ HD.out hs).mono ?_; rintro e w1 ⟨rfl, rfl⟩) | go_in)
    refine bodyPost_ret (results_none rfl _ _ _) rfl ?_
    go_wp2_with fail
    go_ret
    exact ⟨rfl, At.alloc (At.set h 1 _) _, ((Kp.rfl_ _ _).set (by simp) _).alloc _⟩
  · have hub : ((u : Int) == 0) = false := by rw [beq_eq_false_iff_ne]; omega
    go_enter Try.func24, Try.ntmps24
    go_wp2_with (first | (go_at_call 29; refine (good_any g s _ _ h1).mono ?_; rintro e w1 ⟨rfl, rfl⟩) | (go_at_call 49; refine (number_to s n u _ HD.out hs).mono ?_; rintro e w1 ⟨rfl, rfl⟩) | go_in)
    refine bodyPost_ret (results_none rfl _ _ _) rfl ?_
    go_wp2_with fail
    go_ret
    exact ⟨rfl, At.alloc (At.set h 1 _) _, ((Kp.rfl_ _ _).set (by simp) _).alloc _⟩
  · have hub : ((u : Int) == 0) = false := by rw [beq_eq_false_iff_ne]; omega
    go_enter Try.func24, Try.ntmps24
    go_wp2_with (first | (go_at_call 29; refine (good_any g s _ _ h1).mono ?_; rintro e w1 ⟨rfl, rfl⟩) | (go_at_call 49; refine (number_to s n u _ HD.out hs).mono ?_; rintro e w1 ⟨rfl, rfl⟩) | go_in)
    refine bodyPost_ret (results_none rfl _ _ _) rfl ?_
    go_wp2_with fail
    go_ret
    exact ⟨rfl, At.alloc (At.set h 1 _) _, ((Kp.rfl_ _ _).set (by simp) _).alloc _⟩
end Go.Proofs.Ytencjlkmpodghaa
