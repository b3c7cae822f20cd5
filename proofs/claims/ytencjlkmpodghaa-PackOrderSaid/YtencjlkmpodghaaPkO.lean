/- PackNil, PackOrder. -/
import Derived.Test.YtencjlkmpodghaaPkW
namespace Go.Proofs.Ytencjlkmpodghaa
open Go.RowKit
set_option linter.unusedVariables false

set_option maxHeartbeats 1000000 in
theorem count_nil (w : World) : Calls Try.prog 26 #[.pointer none] w fun e w' => e = .returned (.int .i64 0) ∧ Kp [] w w' := by
  go_enter Try.func26, Try.ntmps26
  go_wp2_with fail
  refine (num_nil _).mono ?_
  rintro e w1 ⟨rfl, hk1⟩
  go_wp2_with fail
  refine (left_nil _).mono ?_
  rintro e w2 ⟨rfl, rfl⟩
  go_wp2_with fail
  go_ret
  exact ⟨rfl, hk1⟩
set_option maxHeartbeats 1000000 in
theorem pnil_walk (w : World) : Calls Try.prog 10 #[] w (Yes w) := by
  go_enter Try.func10, Try.ntmps10
  go_wp2_with fail
  refine (spoil_nil _).mono ?_
  rintro e w1 ⟨rfl, rfl⟩
  go_wp2_with fail
  refine (pawake _).mono ?_
  rintro e w1 ⟨rfl, hk1⟩
  go_wp2_with fail
  refine (num_nil _).mono ?_
  rintro e w2 ⟨rfl, hk2⟩
  go_wp2_with fail
  refine (text_nil _).mono ?_
  rintro e w3 ⟨rfl, hk3⟩
  go_wp2_with fail
  refine (count_nil _).mono ?_
  rintro e w4 ⟨rfl, hk4⟩
  go_wp2_with fail
  refine (left_nil _).mono ?_
  rintro e w5 ⟨rfl, rfl⟩
  go_wp2_with fail
  refine (good_nil _).mono ?_
  rintro e w5 ⟨rfl, rfl⟩
  go_wp2_with fail
  refine (done_nil _).mono ?_
  rintro e w5 ⟨rfl, rfl⟩
  go_wp2_with fail
  go_ret
  exact ⟨rfl, ((hk1.trans hk2).trans hk3).trans hk4⟩

theorem enc_mono : ∀ (b a : Nat), a ≤ b → (enc a).length ≤ (enc b).length := by
  intro b
  induction b using Nat.strongRecOn with
  | _ b ih =>
    intro a h
    by_cases hb : b < 128
    · rw [enc_small hb, enc_small (by omega)]; simp
    · rw [enc_big (z := b) (by omega)]
      by_cases ha : a < 128
      · rw [enc_small ha]; simp
      · rw [enc_big (z := a) (by omega)]
        have := ih (b / 128) (by omega) (a / 128) (by omega)
        simp only [List.length_cons]
        omega
def OneNum (w : World) (x : Int) (e : Ending) (w' : World) : Prop := ∃ s : ByteArray, e = .returned (.string s) ∧ s.size = (numB x).length ∧ Kp [] w w'
theorem nums_one (x : Int) (w : World) (h : -9223372036854775808 ≤ x) (h' : x ≤ 9223372036854775807) :
    Calls Try.prog 16 #[.slice (some ⟨w.heap.size, 0, none⟩) 1 1] (w.alloc (.cells #[.int .i64 x] 3)) (OneNum w x) :=
  (nums_any _ 1 1 [x] _ (Ls.of_at (At.new w _ _)) (by
    intro z hz
    obtain rfl : z = x := by simpa using hz
    exact WalkArith.wf_i64 (by omega)) (by omega)).mono fun e w' ⟨h1, h2⟩ => ⟨_, h1, by simp [ByteArray.size], ((Kp.rfl_ _ _).alloc _).trans h2⟩
theorem num_mono {x y : Int} (h0 : 0 ≤ x) (h : x ≤ y) : (numB x).length ≤ (numB y).length := enc_mono _ _ (by unfold fold; rw [if_neg (by omega), if_neg (by omega)]; omega)

set_option maxHeartbeats 2000000 in
theorem porder (a b : Int) (w : World) (ha : -9223372036854775808 ≤ a) (ha' : a ≤ 9223372036854775807) (hb : -9223372036854775808 ≤ b) (hb' : b ≤ 9223372036854775807) :
    Calls Try.prog 9 #[.int .i64 a, .int .i64 b] w (Yes w) := by
  obtain ⟨p, hp⟩ : ∃ p, (if a < 0 then -1 - a else a) = p := ⟨_, rfl⟩
  obtain ⟨q, hq⟩ : ∃ q, (if b < 0 then -1 - b else b) = q := ⟨_, rfl⟩
  have hpb : 0 ≤ p ∧ p ≤ 9223372036854775807 := by rw [← hp]; split <;> omega
  have hqb : 0 ≤ q ∧ q ≤ 9223372036854775807 := by rw [← hq]; split <;> omega
  have ga : a < 0 ∧ -1 - a = p ∨ ¬ a < 0 ∧ a = p := by
    by_cases h : a < 0
    · rw [if_pos h] at hp; exact .inl ⟨h, hp⟩
    · rw [if_neg h] at hp; exact .inr ⟨h, hp⟩
  have gb : b < 0 ∧ -1 - b = q ∨ ¬ b < 0 ∧ b = q := by
    by_cases h : b < 0
    · rw [if_pos h] at hq; exact .inl ⟨h, hq⟩
    · rw [if_neg h] at hq; exact .inr ⟨h, hq⟩
  clear hp hq
  have gc : p < q ∨ p = q ∨ q < p := by omega
  rcases ga with ⟨ga, ea⟩ | ⟨ga, rfl⟩ <;> rcases gb with ⟨gb, eb⟩ | ⟨gb, rfl⟩ <;> rcases gc with gc | rfl | gc
  all_goals
    go_enter Try.func9, Try.ntmps9
    go_wp2_with fail
    refine (nums_one _ _ ?_ ?_).mono ?_
    · omega
    · omega
    rintro e w1 ⟨s1, rfl, hs1, hk1⟩
    go_wp2_with fail
    refine (nums_one _ _ ?_ ?_).mono ?_
    · omega
    · omega
    rintro e w2 ⟨s2, rfl, hs2, hk2⟩
    have hm : s1.size ≤ s2.size := by rw [hs1, hs2]; exact num_mono (by omega) (by omega)
    have h1 : 1 ≤ s1.size := by rw [hs1]; exact (numB_len (by omega) (by omega)).1
    have h2 : s2.size ≤ 10 := by rw [hs2]; exact (numB_len (by omega) (by omega)).2
    clear hs1 hs2
    go_wp2_with fail
    refine (pawake _).mono ?_
    rintro e w3 ⟨rfl, hk3⟩
    go_wp2_with fail
    go_ret
    exact ⟨ret_bool (by simp; omega), (hk1.trans hk2).trans hk3⟩
theorem porder_walk (v0 v1 : Value) (w : World) (i0 : In w 3 v0) (i1 : In w 3 v1) : Calls Try.prog 9 #[v0, v1] w (Yes w) := by
  obtain ⟨a, rfl, wa⟩ := in_int Try.underlying3 i0
  obtain ⟨b, rfl, wb⟩ := in_int Try.underlying3 i1
  exact porder a b w (bd_i64 wa).1 (bd_i64 wa).2 (bd_i64 wb).1 (bd_i64 wb).2
end Go.Proofs.Ytencjlkmpodghaa
