/- The walk of BucketGoes. -/
import Derived.Test.YtencjlkmpodghaaBk
import Derived.Test.YtencjlkmpodghaaApp
namespace Go.Proofs.Ytencjlkmpodghaa
open Go.RowKit

theorem taken_one {l s : Int} (h0 : 0 ≤ s) (h : s ≤ l) : taken l [s] = (1, l - s) := by
  rw [taken, if_neg (by omega)]; simp [taken]
theorem taken_none {l s : Int} (h : l < s) : taken l [s] = (0, l) := by
  rw [taken, if_pos (by omega)]
theorem taken_bd : ∀ (zs : List Int) (l : Int), 0 ≤ l → 0 ≤ (taken l zs).2 ∧ (taken l zs).2 ≤ l ∧ 0 ≤ (taken l zs).1 ∧ (taken l zs).1 ≤ zs.length := by
  intro zs
  induction zs with
  | nil => intro l h; simp [taken, h]
  | cons s ss ih =>
    intro l h
    rw [taken]
    split
    · simp; omega
    · have := ih (l - s) (by omega)
      simp only [List.length_cons]
      omega

set_option maxHeartbeats 400000 in
theorem bgoes_bad (r b s : Int) (A : Option Addr) (n c : Nat) (w : World) (h : NewBad r b) :
    Calls Try.prog 13 #[.int .i64 r, .int .i64 b, .slice A n c, .int .i64 s] w (Yes w) := by
  go_enter Try.func13, Try.ntmps13
  go_wp2_with fail
  refine (bnew_bad r b _ h).mono ?_
  rintro e w1 ⟨rfl, rfl⟩
  go_wp2_with fail
  refine (bawake _).mono ?_
  rintro e w1 ⟨rfl, hk1⟩
  go_wp2_with fail
  refine (bawake _).mono ?_
  rintro e w2 ⟨rfl, hk2⟩
  go_wp2_with fail
  go_ret
  exact ⟨rfl, hk1.then hk2 (by simp)⟩

/-- What is let go by the law's own bounds. -/
def Out (s b : Int) (n : Nat) : Prop := s < 0 ∨ (0 ≤ s ∧ b < s) ∨ ((0 ≤ s ∧ s ≤ b) ∧ 1000 < n)
set_option maxHeartbeats 400000 in
theorem bgoes_out (r b s : Int) (A : Option Addr) (n c : Nat) (w : World) (h1 : 1 ≤ r) (h2 : r ≤ 4096) (h3 : 64 ≤ b) (h4 : b ≤ 16384) (h : Out s b n) :
    Calls Try.prog 13 #[.int .i64 r, .int .i64 b, .slice A n c, .int .i64 s] w (Yes w) := by
  rcases h with h | ⟨h, h'⟩ | ⟨⟨h, h'⟩, h''⟩
  all_goals
    go_enter Try.func13, Try.ntmps13
    go_wp2_with fail
    refine (bnew_ok r b _ h1 h2 h3 h4).mono ?_
    rintro e w1 ⟨rfl, hb1, hk1⟩
    go_wp2_with fail
    refine (bawake _).mono ?_
    rintro e w2 ⟨rfl, hk2⟩
    go_wp2_with fail
    refine (bawake _).mono ?_
    rintro e w3 ⟨rfl, hk3⟩
    go_wp2_with fail
    go_ret
    exact ⟨rfl, (hk1.then hk2 (by simp)).then hk3 (by simp)⟩

set_option maxHeartbeats 400000 in
theorem bgoes_in (r b s : Int) (A : Option Addr) (n c : Nat) (zs : List Int) (w : World) (h1 : 1 ≤ r) (h2 : r ≤ 4096) (h3 : 64 ≤ b) (h4 : b ≤ 16384) (h5 : 0 ≤ s) (h6 : s ≤ b) (h7 : n ≤ 1000)
    (hL : Ls w A n (zs.map (Value.int .i64))) :
    Calls Try.prog 13 #[.int .i64 r, .int .i64 b, .slice A n c, .int .i64 s] w (Yes w) := by
  go_enter Try.func13, Try.ntmps13
  go_wp2_with fail
  refine (bnew_ok r b _ h1 h2 h3 h4).mono ?_
  rintro e w1 ⟨rfl, hb1, hk1⟩
  go_wp2_with fail
  refine (bawake _).mono ?_
  rintro e w2 ⟨rfl, hk2⟩
  have hb2 := hb1.kp hk2 (by simp)
  have hz2 := hb2.lt
  have hL2 := (hL.kp hk1 (by simp)).kp hk2 (by simp)
  go_wp2_with (at_builtin; refine wpl_copy_int w2 rfl _ _ rfl A n c zs rfl rfl hL2 (by omega) ?_; intro A' c' w3 hc3 hL3 hA3 hk3)
  have hb3 : Bk w3 w.heap.size r b b := At.kp hb2 hk3 (by simp)
  have hbd := taken_bd zs b (by omega)
  refine (btake_some w.heap.size r b b A' n c' zs _ hb3 (by omega) h4 hL3 (fun _ ad had => by have := hA3 ad had; omega) (by unfold maxLen; omega)).mono ?_
  rintro e w4 ⟨rfl, hb4, hk4⟩
  go_wp2_with fail
  refine (bleft_some w.heap.size r b _ _ hb4).mono ?_
  rintro e w5 ⟨rfl, rfl⟩
  have hkk : Kp [] w w4 := ((hk1.then hk2 (by simp)).then hk3 (by simp)).then hk4 (by simp)
  generalize (taken b zs).2 = l0 at *
  generalize (taken b zs).1 = n0 at *
  clear hb1 hb2 hb3 hk1 hk2 hk3 hk4 hL hL2 hL3 hA3
  go_wp2_with fail
  go_loopw [11] (fun i wr => ∃ left : Int, i = .int .i64 left ∧ 0 ≤ left ∧ left ≤ b + r ∧ Bk wr w.heap.size r b (if b < left then b else left) ∧ Kp [] w wr) (fun i _ => (s - intOf i).toNat)
  case atStart => exact ⟨l0, rfl, by omega, by omega, by rw [if_neg (by omega)]; exact hb4, hkk⟩
  case round =>
    obtain ⟨left, rfl, hl0, hl1, hbk, hkp⟩ := hrel
    by_cases hlt : left < s
    · rw [if_neg (by omega)] at hbk
      go_wp2_with fail
      have hz := hbk.lt
      refine (btake_to w.heap.size r b left _ 1 1 [s] 0 left _ (taken_none hlt) (hbk.alloc _) (by omega) (by omega) (Ls.of_at (At.new _ _ _)) (by rintro _ ad ⟨rfl⟩; simp; omega) (by unfold maxLen; omega)).mono ?_
      rintro e w5 ⟨rfl, hb5, hk5⟩
      go_wp2_with fail
      refine (btick_some w.heap.size r b left _ hb5 (by omega) (by omega) (by omega) (by omega)).mono ?_
      rintro e w6 ⟨rfl, hb6, hk6⟩
      unfold ticked at hb6
      have hk7 : Kp [] w w6 := ((hkp.alloc _).then hk5 (by simp)).then hk6 (by simp)
      go_wp2_with fail
      go_roundw
      case rel => exact ⟨left + r, rfl, by omega, by omega, hb6, hk7⟩
      case measure => simp [intOf]; omega
    · have hz := hbk.lt
      have hmin : s ≤ (if b < left then b else left) ∧ 0 ≤ (if b < left then b else left) ∧ (if b < left then b else left) ≤ 16384 := by split <;> omega
      generalize (if b < left then b else left) = m at *
      go_wp2_with fail
      refine (btake_to w.heap.size r b m _ 1 1 [s] 1 (m - s) _ (taken_one h5 hmin.1) (hbk.alloc _) (by omega) (by omega) (Ls.of_at (At.new _ _ _)) (by rintro _ ad ⟨rfl⟩; simp; omega) (by unfold maxLen; omega)).mono ?_
      rintro e w5 ⟨rfl, hb5, hk5⟩
      go_wp2_with fail
      go_ret
      exact ⟨rfl, (hkp.alloc _).then hk5 (by simp)⟩

theorem bgoes_walk (v0 v1 v2 v3 : Value) (w : World) (i0 : In w 3 v0) (i1 : In w 3 v1) (i2 : In w 22 v2) (i3 : In w 3 v3) :
    Calls Try.prog 13 #[v0, v1, v2, v3] w (Yes w) := by
  obtain ⟨r, rfl, -⟩ := in_int Try.underlying3 i0
  obtain ⟨b, rfl, -⟩ := in_int Try.underlying3 i1
  obtain ⟨s, rfl, -⟩ := in_int Try.underlying3 i3
  obtain ⟨A, n, c, xs, rfl, hnc, hc, hL, hx, -, -⟩ := rd_slice Try.underlying22 (by kernel_rfl) (in_rd_slice Try.underlying22 i2)
  obtain ⟨zs, rfl, -⟩ := ints_of fun u hu => rd_int Try.underlying3 (hx u hu)
  by_cases hbad : NewBad r b
  · exact bgoes_bad r b s A n c w hbad
  · have hb : 1 ≤ r ∧ r ≤ 4096 ∧ 64 ≤ b ∧ b ≤ 16384 := by unfold NewBad at hbad; omega
    by_cases ho : Out s b n
    · exact bgoes_out r b s A n c w hb.1 hb.2.1 hb.2.2.1 hb.2.2.2 ho
    · have ho' : 0 ≤ s ∧ s ≤ b ∧ n ≤ 1000 := by unfold Out at ho; omega
      exact bgoes_in r b s A n c zs w hb.1 hb.2.1 hb.2.2.1 hb.2.2.2 ho'.1 ho'.2.1 ho'.2.2 hL
end Go.Proofs.Ytencjlkmpodghaa
