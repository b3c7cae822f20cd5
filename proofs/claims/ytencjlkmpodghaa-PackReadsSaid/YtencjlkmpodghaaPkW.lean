/- awake of pack's laws; PackNil, PackOrder. -/
import Derived.Test.YtencjlkmpodghaaPkR
import Derived.Test.YtencjlkmpodghaaPkT
namespace Go.Proofs.Ytencjlkmpodghaa
set_option maxRecDepth 100000
open Go.RowKit
set_option linter.unusedVariables false

theorem ext1 : (ByteArray.mk #[3, 4, 97, 98, 33]).extract 1 5 = ByteArray.mk #[4, 97, 98, 33] := by decide
theorem ext2 : (ByteArray.mk #[4, 97, 98, 33]).extract 1 3 = ByteArray.mk #[97, 98] := by decide
theorem ext3 : (ByteArray.mk #[4, 97, 98, 33]).extract 3 4 = ByteArray.mk #[33] := by decide
theorem dec1 : decN [3, 4, 97, 98, 33] = (-2, 1) := by decide
theorem dec2 : decN [4, 97, 98, 33] = (((2 : Nat) : Int), 1) := by decide
theorem nums1 : ([0, -1, 1, 64] : List Int).flatMap numB = [0, 1, 2, 128, 1] := by decide
theorem texts1 : texts [⟨#[97, 98]⟩, ⟨#[]⟩] = [4, 97, 98, 0] := by decide

theorem num_to (g : Nat) (s r : ByteArray) (n : Int) (u : Nat) (w : World) (h : Rdr w g s false) (hd : decN s.data.toList = (n, u)) (hu : 0 < u) (hus : u ≤ s.size) (hs : s.size ≤ 1000000000) (hr : s.extract u s.size = r) :
    Calls Try.prog 22 #[.pointer (some ⟨g, 0, none⟩)] w fun e w' => e = .returned (.int .i64 n) ∧ Rdr w' g r false ∧ Kp [g] w w' :=
  (num_yes g s n u w h hd hu hus hs).mono fun _ _ ⟨a, b, c⟩ => ⟨a, by rw [← hr]; exact b, c⟩
theorem text_to (g : Nat) (s t r : ByteArray) (n u : Nat) (w : World) (h : Rdr w g s false) (hd : decN s.data.toList = ((n : Int), u)) (hu : 0 < u) (hn : u + n ≤ s.size) (hs : s.size ≤ 1000000000) (ht : s.extract u (u + n) = t) (hr : s.extract (u + n) s.size = r) :
    Calls Try.prog 24 #[.pointer (some ⟨g, 0, none⟩)] w fun e w' => e = .returned (.string t) ∧ Rdr w' g r false ∧ Kp [g] w w' :=
  (text_yes g s n u w h hd hu hn hs).mono fun _ _ ⟨a, b, c⟩ => ⟨by rw [a, ht], by rw [← hr]; exact b, c⟩
theorem nums_to (A : Option Addr) (n c : Nat) (zs : List Int) (b : ByteArray) (w : World) (hb : ByteArray.mk (zs.flatMap numB).toArray = b) (hL : Ls w A n (zs.map (Value.int .i64))) (hwf : ∀ z ∈ zs, (Lit.int .i64 z).wf = true) (hn : n ≤ 20000) :
    Calls Try.prog 16 #[.slice A n c] w fun e w' => e = .returned (.string b) ∧ Kp [] w w' :=
  (nums_any A n c zs w hL hwf hn).mono fun _ _ ⟨h1, h2⟩ => ⟨by rw [h1, hb], h2⟩
theorem packtext_to (A : Option Addr) (n c : Nat) (ss : List ByteArray) (b : ByteArray) (w : World) (hb : ByteArray.mk (texts ss).toArray = b) (hL : Ls w A n (ss.map Value.string)) (hn : n ≤ 100000) (htot : (texts ss).length ≤ 1000000000) :
    Calls Try.prog 19 #[.slice A n c] w fun e w' => e = .returned (.string b) ∧ Kp [] w w' :=
  (text_any A n c ss w hL hn htot).mono fun _ _ ⟨h1, h2⟩ => ⟨by rw [h1, hb], h2⟩

set_option maxHeartbeats 1000000 in
theorem pawake (w : World) : Calls Try.prog 15 #[] w (Yes w) := by
  go_enter Try.func15, Try.ntmps15
  go_wp2_with fail
  refine (read_any _ _).mono ?_
  rintro e w1 ⟨rfl, hr1, hk1⟩
  have hz1 := hr1.cells.2.2.2.2
  go_wp2_with fail
  refine (num_to w.heap.size _ ⟨#[4, 97, 98, 33]⟩ (-2) 1 _ hr1 dec1 (by omega) (by decide) (by decide) (by decide)).mono ?_
  rintro e w2 ⟨rfl, hr2, hk2⟩
  go_wp2_with fail
  refine (text_to w.heap.size _ ⟨#[97, 98]⟩ ⟨#[33]⟩ 2 1 _ hr2 dec2 (by omega) (by decide) (by decide) (by decide) (by decide)).mono ?_
  rintro e w3 ⟨rfl, hr3, hk3⟩
  have hkp3 : Kp [] w w3 := (hk1.then hk2 (by simp)).then hk3 (by simp)
  clear hk1 hk2 hk3 hr1 hr2
  go_wp2_with fail
  refine (left_any w.heap.size _ _ _ hr3).mono ?_
  rintro e w4 ⟨rfl, rfl⟩
  go_wp2_with fail
  refine (nums_to _ 4 4 [0, -1, 1, 64] ⟨#[0, 1, 2, 128, 1]⟩ _ (by decide) (Ls.of_at (At.new _ _ _)) (by decide) (by omega)).mono ?_
  rintro e w5 ⟨rfl, hk5⟩
  have hr5 : Rdr w5 w.heap.size ⟨#[33]⟩ false := At.kp (At.alloc hr3 _) hk5 (by simp)
  have hkp5 := (hkp3.alloc _).trans hk5
  clear hr3 hkp3 hk5
  go_wp2_with fail
  refine (packtext_to _ 2 2 [⟨#[97, 98]⟩, ⟨#[]⟩] ⟨#[4, 97, 98, 0]⟩ _ (by decide) (Ls.of_at (At.new _ _ _)) (by omega) (by decide)).mono ?_
  rintro e w6 ⟨rfl, hk6⟩
  have hr6 : Rdr w6 w.heap.size ⟨#[33]⟩ false := At.kp (At.alloc hr5 _) hk6 (by simp)
  have hkp6 := (hkp5.alloc _).trans hk6
  clear hr5 hkp5 hk6
  go_wp2_with fail
  refine (good_any w.heap.size _ _ _ hr6).mono ?_
  rintro e w7 ⟨rfl, rfl⟩
  go_wp2_with fail
  refine (done_any w.heap.size _ _ _ hr6).mono ?_
  rintro e w7 ⟨rfl, rfl⟩
  go_wp2_with fail
  go_ret
  exact ⟨rfl, hkp6⟩
end Go.Proofs.Ytencjlkmpodghaa
