/- Package hunt: awake, many. -/
import Derived.Test.YtbhhenhabhahdaaNa
namespace Go.Proofs.Ytbhhenhabhahdaa
set_option maxRecDepth 100000
open Go.RowKit
set_option linter.unusedVariables false

set_option maxHeartbeats 4000000 in
theorem many_any (A : Option Addr) (n c : Nat) (ss : List ByteArray) (w : World) (hL : Ls w A n (ss.map Value.string)) (hnm : n ≤ maxLen) :
    Calls Try.prog 6 #[.slice A n c] w fun e w' => (∃ b, e = .returned (.bool b) ∧ (b = false → n ≤ 4096)) ∧ w = w' := by
  unfold maxLen at hnm
  go_enter Try.func6, Try.ntmps6
  go_wp2_with fail
  go_loopg [3, 8] n (fun gk s i wr => ∃ (m : Nat) (q : Nat), n - m ≤ gk ∧ i = .int .i64 m ∧ m ≤ n ∧ s = .int .i64 q ∧ m ≤ q ∧ q ≤ 4096 ∧ w = wr)
  case atStart => exact ⟨0, 0, by omega, rfl, Nat.zero_le _, rfl, Nat.le_refl _, by omega, rfl⟩
  case round =>
    obtain ⟨m, q, hgk, rfl, hm, rfl, hmq, hq, rfl⟩ := hrel
    by_cases hlt : m < n
    · obtain ⟨ad, z, rfl, hz, hcz⟩ := hL.str_at hlt
      have b2 : (m : Int) < (n : Int) := by omega
      obtain ⟨x, hx, hx1⟩ : ∃ x : Nat, min (z.size : Int) 1048576 = (x : Int) ∧ x ≤ 1048576 := ⟨min z.size 1048576, by omega, by omega⟩
      by_cases hs : z.size ≤ 1048576
      · by_cases hbig : q + (1 + z.size) ≤ 4096
        · go_wp2_with fail
          go_roundg (n - (m + 1))
          case measure => omega
          case rel => exact ⟨m + 1, q + (1 + z.size), by omega, by go_num, by omega, by go_num, by omega, by omega, rfl⟩
        · go_wp2_with fail
          go_ret
          exact ⟨⟨_, rfl, by simp⟩, rfl⟩
      · have hs1 : (1048576 : Int) < (z.size : Int) := by omega
        obtain ⟨big, hbig, hbg⟩ : ∃ big : Int, (1048576 : Int) = big ∧ 4096 < big ∧ big < 2000000 := ⟨1048576, rfl, by decide, by decide⟩
        rw [hbig] at hs1
        go_wp2_with (simp only [hbig])
        go_ret
        exact ⟨⟨_, rfl, by simp⟩, rfl⟩
    · go_wp2_with fail
      go_ret
      exact ⟨⟨_, rfl, fun _ => by omega⟩, rfl⟩
def abcde : List ByteArray := [⟨#[97]⟩, ⟨#[98]⟩, ⟨#[99]⟩, ⟨#[100]⟩, ⟨#[101]⟩]
theorem abcde_to0 : tickTo 5 0 abcde = 0 := by unfold tickTo abcde; simp
theorem abcde_to5 : tickTo 5 5 abcde = 0 := by unfold tickTo abcde; simp
theorem abcde_l0 : (tickL 0 abcde).length = 4 := by unfold tickL abcde; simp
theorem abcde_l5 : tickL 5 abcde = [⟨#[101]⟩] := by unfold tickL abcde; simp
set_option maxHeartbeats 8000000 in
theorem hawake_any (w : World) : Calls Try.prog 5 #[] w fun e w' => e = .returned (.bool true) ∧ Kp [] w w' := by
  go_enter Try.func5, Try.ntmps5
  go_wp2_with fail
  refine (hnew_any 5 w).mono ?_
  rintro e w1 (⟨_, rfl, ha, hk⟩ | ⟨h, _⟩)
  rotate_left
  · exact absurd (by omega) h
  obtain ⟨g, hg⟩ : ∃ g, w.heap.size = g := ⟨_, rfl⟩
  have HG := Lib.hid hg
  rw [hg] at ha ⊢
  clear hg
  have hgl := ha.lt
  have k2 : Kp [] w1 (w1.alloc (.cells (abcde.map Value.string).toArray 9)) := (Kp.rfl_ [] w1).alloc _
  have a2 := ha.kp k2 (by simp)
  have l2 : Ls (w1.alloc (.cells (abcde.map Value.string).toArray 9)) (some ⟨w1.heap.size, 0, none⟩) 5 (abcde.map Value.string) := Ls.of_at (At.new w1 _ _)
  have hk2 := hk.trans k2
  unfold abcde at a2 l2 hk2
  clear ha hk k2
  go_wp2_with fail
  refine (htick_any g 5 0 _ 5 5 abcde _ a2 (by omega) (by omega) l2 (by intro _ ad e; injection e with e; subst e; simp; omega) (by omega) (by omega)).mono ?_
  rintro e w3 ⟨A3, k3, c3, rfl, hkc3, hcm3, l3, a3, hk3⟩
  have e3 : k3 = 4 := by rw [← l3.1, List.length_map, abcde_l0]
  subst e3
  have hkw3 : Kp [] w w3 := hk2.then hk3 (by simp; have := HG.out; omega)
  clear hk2 hk3 l2 a2
  rw [abcde_to0]
  go_wp2_with fail
  go_loopg [23] 4 (fun gk i wr => ∃ m : Nat, 4 - m ≤ gk ∧ i = .int .i64 m ∧ m ≤ 4 ∧ At wr g 36 #[.int .i64 (5 : Nat), .int .i64 (1 + m : Nat)] ∧ Kp [] w wr)
  case atStart => exact ⟨0, by omega, rfl, by omega, a3, hkw3⟩
  case round =>
    obtain ⟨m, hgk, rfl, hm, har, hkr⟩ := hrel
    by_cases hlt : m < 4
    · have b2 : (m : Int) < 4 := by omega
      have k4 : Kp [] wr (wr.alloc (.cells #[.string ⟨#[97]⟩] 9)) := (Kp.rfl_ [] wr).alloc _
      have l4 : Ls (wr.alloc (.cells #[.string ⟨#[97]⟩] 9)) (some ⟨wr.heap.size, 0, none⟩) 1 [Value.string ⟨#[97]⟩] := Ls.of_at (At.new wr _ _)
      have hgr := har.lt
      have a4 := har.kp k4 (by simp)
      clear har
      go_wp2_with fail
      refine (htick_any g 5 (1 + m) _ 1 1 [⟨#[97]⟩] _ a4 (by omega) (by omega) l4 (by intro _ ad e; injection e with e; subst e; simp; omega) (by omega) (by omega)).mono ?_
      rintro e w5 ⟨A5, k5, c5, rfl, -, -, -, a5, hk5⟩
      go_wp2_with fail
      go_roundg (4 - (m + 1))
      case measure => omega
      case rel => exact ⟨m + 1, by omega, by go_num, by omega, by rw [show 1 + (m + 1) = 1 + m + 1 by omega]; exact a5, (hkr.trans k4).then hk5 (by simp; have := HG.out; omega)⟩
    · obtain rfl : m = 4 := by omega
      have k4 : Kp [] wr (wr.alloc (.cells (abcde.map Value.string).toArray 9)) := (Kp.rfl_ [] wr).alloc _
      have hgr := har.lt
      have a4 := har.kp k4 (by simp)
      have l4 : Ls (wr.alloc (.cells (abcde.map Value.string).toArray 9)) (some ⟨wr.heap.size, 0, none⟩) 5 (abcde.map Value.string) := Ls.of_at (At.new wr _ _)
      have hk4 := hkr.trans k4
      unfold abcde at a4 l4 hk4
      clear har k4
      go_wp2_with fail
      refine (htick_any g 5 5 _ 5 5 abcde _ a4 (by omega) (by omega) l4 (by intro _ ad e; injection e with e; subst e; simp; omega) (by omega) (by omega)).mono ?_
      rintro e w5 ⟨A5, k5, c5, rfl, hkc5, hcm5, l5, a5, hk5⟩
      rw [abcde_l5] at l5
      have e5 : k5 = 1 := by rw [← l5.1]; rfl
      subst e5
      obtain ⟨ad, z, rfl, hz, hcz⟩ := l5.str_at (k := 0) (by omega)
      have hz2 : z = ⟨#[101]⟩ := by
        have : some (⟨#[101]⟩ : ByteArray) = some z := hz
        injection this with this
        exact this.symm
      subst hz2
      rw [addr_add_zero] at hcz
      rw [abcde_to5]
      go_wp2_with fail
      refine (hturn_any g _ _ w5 a5).mono ?_
      rintro e w6 ⟨rfl, rfl⟩
      go_wp2_with fail
      go_ret
      exact ⟨rfl, hk4.then hk5 (by simp; have := HG.out; omega)⟩
end Go.Proofs.Ytbhhenhabhahdaa
