/- Package hunt: HuntTicks. -/
import Derived.Test.YtoanghpakdfiaaaNe
namespace Go.Proofs.Ytoanghpakdfiaaa
set_option maxRecDepth 100000
open Go.RowKit
set_option linter.unusedVariables false

theorem in_strss {W : World} {v : Value} (h : In W 22 v) : ∃ (A : Option Addr) (n c : Nat) (us : List Value), v = .slice A n c ∧ n ≤ c ∧ c ≤ maxLen ∧ Ls W A n us ∧ ∀ u ∈ us, ∃ (B : Option Addr) (m d : Nat) (ss : List ByteArray), u = .slice B m d ∧ m ≤ d ∧ d ≤ maxLen ∧ Ls W B m (ss.map Value.string) := by
  obtain ⟨A, n, c, us, rfl, h1, h2, h3, h4, -, -⟩ := rd_slice Try.underlying22 (by kernel_rfl) (in_rd_slice Try.underlying22 h)
  refine ⟨A, n, c, us, rfl, h1, h2, h3, fun u hu => ?_⟩
  obtain ⟨B, m, d, xs, rfl, g1, g2, g3, g4, -, -⟩ := rd_slice Try.underlying28 (by kernel_rfl) (h4 u hu)
  obtain ⟨zs, rfl, _⟩ := strings_of fun u hu => rd_string Try.underlying9 (g4 u hu)
  exact ⟨B, m, d, zs, rfl, g1, g2, g3⟩
theorem tickL_len (t : Nat) (ss : List ByteArray) : (tickL t ss).length ≤ 4 := by unfold tickL; simp; omega
set_option maxHeartbeats 16000000 in
theorem hticks_walk (v0 v1 : Value) (w : World) (i0 : In w 3 v0) (i1 : In w 22 v1) : Calls Try.prog 3 #[v0, v1] w (Yes w) := by
  obtain ⟨me, rfl, _⟩ := in_int Try.underlying3 i0
  obtain ⟨A, n, c, us, rfl, hn, hc, hL, hus⟩ := in_strss i1
  unfold maxLen at hc
  clear i0 i1
  go_enter Try.func3, Try.ntmps3
  go_wp2_with fail
  refine (hnew_any me w).mono ?_
  rintro e w1 (⟨hme, rfl, ha, hk⟩ | ⟨hme, rfl, rfl⟩)
  rotate_left
  · go_wp2_with fail
    refine (hawake_any w).mono ?_
    rintro e w2 ⟨rfl, hk2⟩
    rcases (show me < 0 ∨ (0 ≤ me ∧ 5 < me) by omega) with h | ⟨h, h'⟩
    · go_wp2_with fail
      go_ret
      exact ⟨rfl, hk2⟩
    · go_wp2_with fail
      go_ret
      exact ⟨rfl, hk2⟩
  obtain ⟨h0, h5⟩ := hme
  obtain ⟨me, rfl⟩ : ∃ k : Nat, me = (k : Int) := ⟨me.toNat, by omega⟩
  obtain ⟨g, hg⟩ : ∃ g, w.heap.size = g := ⟨_, rfl⟩
  have hwg : w.heap.size ≤ g := by omega
  have HG := Lib.hid hwg
  rw [hg] at ha ⊢
  clear hg hwg
  go_wp2_with fail
  refine (hawake_any w1).mono ?_
  rintro e w2 ⟨rfl, hk2⟩
  have a2 := ha.kp hk2 (by simp)
  have hkw := hk.trans hk2
  clear ha hk hk2
  by_cases hbig : (200 : Int) < (n : Int)
  · go_wp2_with fail
    go_ret
    exact ⟨rfl, hkw⟩
  go_wp2_with fail
  go_loopg [5, 48] n (fun gk h i wr => ∃ (m g : Nat), n - m ≤ gk ∧ i = .int .i64 m ∧ m ≤ n ∧ h = .pointer (some ⟨g, 0, none⟩) ∧ w.heap.size ≤ g ∧ At wr g 38 #[.int .i64 me, .int .i64 m] ∧ Kp [] w wr)
  case atStart => exact ⟨0, g, by omega, rfl, Nat.zero_le _, rfl, HG.out, a2, hkw⟩
  case round =>
    obtain ⟨m, g, hgk, rfl, hm, rfl, hwg, har, hkr⟩ := hrel
    clear a2 hkw HG
    by_cases hlt : m < n
    · have b2 : (m : Int) < (n : Int) := by omega
      have HL := Lib.hid hL
      obtain ⟨ad, u, rfl, hb, hu, hcu⟩ := (hL.kp hkr (by simp)).at_ hlt
      obtain ⟨B, k, d, ss, rfl, hkd, hdm, hLs⟩ := hus u (List.mem_of_getElem? hu)
      have HWG := Lib.hid hwg
      have hBg : 0 < k → ∀ ad, B = some ad → ad.block ≠ g := fun h ad e e2 => by have := hLs.off h ad e; omega
      have hLr := hLs.kp hkr (by simp)
      clear hu hL
      go_wp2_with fail
      refine (many_any B k d ss wr hLr (Nat.le_trans hkd hdm)).mono ?_
      rintro e w3 ⟨⟨b, rfl, hb4⟩, rfl⟩
      cases b
      rotate_left
      · go_wp2_with fail
        go_ret
        exact ⟨rfl, hkr⟩
      have hk4 := hb4 rfl
      go_wp2_with fail
      refine (hcopy_any g me m wr har).mono ?_
      rintro e w3 ⟨rfl, ac3, hk3⟩
      have hgl := har.lt
      have a3 := har.kp hk3 (by simp)
      have hkw3 := hkr.trans hk3
      have hL3 := hLs.kp hkw3 (by simp)
      obtain ⟨gc, hgc⟩ : ∃ gc, wr.heap.size = gc := ⟨_, rfl⟩
      have hwgc : w.heap.size ≤ gc := by rw [← hgc]; exact hkr.size
      have hggc : g < gc := by omega
      have hgcl := ac3.lt
      rw [hgc] at ac3 hgcl ⊢
      clear har hLr hgc hkr hk3
      go_wp2_with (at_builtin; refine wpl_copy_str w3 rfl _ _ rfl B k d ss rfl rfl hL3 (by omega) ?_; intro v4 w4 hown4 hk4'; obtain ⟨A4, c4, rfl, hL4, hb4', hc4, hm4⟩ := own_open hown4)
      have hL4b := hLs.kp (hkw3.trans hk4') (by simp)
      have a4 := a3.kp hk4' (by simp)
      have ac4 := ac3.kp hk4' (by simp)
      have hkw4 := hkw3.trans hk4'
      refine (htick_any g me m A4 k c4 ss w4 a4 (by omega) (by omega) hL4 (fun _ ad e e2 => by have := hb4' ad e; omega) hc4 (by omega)).mono ?_
      rintro e w5 ⟨A5, k5, c5, rfl, hkc5, hcm5, hL5, a5, hk5⟩
      have ac5 := ac4.kp hk5 (by simp; omega)
      have hkw5 : Kp [] w w5 := hkw4.then hk5 (by simp; have := HWG.out; omega)
      have hL5b := hLs.kp hkw5 (by simp)
      have hk5l : k5 ≤ 4 := by have := hL5.1; have := tickL_len m ss; simp at *; omega
      obtain ⟨p, hp⟩ : ∃ p, tickTo me m ss = p := ⟨_, rfl⟩
      rw [hp]
      clear a4 ac4 hL4 hL4b hown4 hkw4 hk4' a3 ac3 hL3 hkw3 hk5
      go_wp2_with fail
      refine (rtick_any me m B k d ss w5 (by omega) (by omega) hL5b (by omega)).mono ?_
      rintro e w6 ⟨A6, k6, c6, rfl, hkc6, hcm6, hL6, hk6⟩
      rw [hp]
      clear hp
      have a6 := a5.kp hk6 (by simp)
      have ac6 := ac5.kp hk6 (by simp)
      have hkw6 := hkw5.trans hk6
      have hL56 := hL5.kp hk6 (by simp)
      clear a5 ac5 hkw5 hL5 hL5b hk6
      go_wp2_with fail
      refine (same_yes A5 A6 k5 c5 k6 c6 (tickL m ss) w6 hL56 hL6 (by omega)).mono ?_
      rintro e w7 ⟨rfl, hk7⟩
      have a7 := a6.kp hk7 (by simp)
      have ac7 := ac6.kp hk7 (by simp)
      have hkw7 := hkw6.trans hk7
      have hL7 := hLs.kp hkw7 (by simp)
      clear a6 ac6 hkw6 hk7 hL56 hL6
      go_wp2_with fail
      refine (hturn_any g _ _ w7 a7).mono ?_
      rintro e w8 ⟨rfl, rfl⟩
      by_cases h3 : m % 3 = 0
      · have hmod : ((m : Int).tmod 3 == 0) = true := by rw [Int.tmod_eq_emod_of_nonneg (by omega)]; simp; omega
        have k8 : Kp [] w7 (w7.alloc (.cells #[.string ⟨#[120]⟩] 9)) := (Kp.rfl_ [] w7).alloc _
        have l8 : Ls (w7.alloc (.cells #[.string ⟨#[120]⟩] 9)) (some ⟨w7.heap.size, 0, none⟩) 1 [Value.string ⟨#[120]⟩] := Ls.of_at (At.new w7 _ _)
        have hg7 := a7.lt
        have a8 := a7.kp k8 (by simp)
        have ac8 := ac7.kp k8 (by simp)
        have hkw8 := hkw7.trans k8
        go_wp2_with fail
        refine (htick_any g me (m + 1) _ 1 1 [⟨#[120]⟩] _ a8 (by omega) (by omega) l8 (by intro _ ad e; injection e with e; subst e; simp; omega) (by omega) (by omega)).mono ?_
        rintro e w9 ⟨A9, k9, c9, rfl, -, -, -, -, hk9⟩
        have ac9 := ac8.kp hk9 (by simp; omega)
        have hkw9 : Kp [] w w9 := hkw8.then hk9 (by simp; have := HWG.out; omega)
        have hL9 := hLs.kp hkw9 (by simp)
        have hgc9 := ac9.lt
        clear a8 ac8 hkw8 l8 k8 hk9 a7 ac7 hkw7 hL7
        go_wp2_with (at_builtin; refine wpl_copy_str w9 rfl _ _ rfl B k d ss rfl rfl hL9 (by omega) ?_; intro v4 w10 hown4 hk4'; obtain ⟨A10, c10, rfl, hL10, hb10, hc10, hm10⟩ := own_open hown4)
        have ac10 := ac9.kp hk4' (by simp)
        have hkw10 := hkw9.trans hk4'
        refine (htick_any gc me m A10 k c10 ss w10 ac10 (by omega) (by omega) hL10 (fun _ ad e e2 => by have := hb10 ad e; omega) hc10 (by omega)).mono ?_
        rintro e w11 ⟨A11, k11, c11, rfl, -, -, -, a11, hk11⟩
        have hkw11 : Kp [] w w11 := hkw10.then hk11 (by simp; omega)
        go_wp2_with fail
        go_roundg (n - (m + 1))
        case measure => omega
        case rel => exact ⟨m + 1, gc, by omega, by go_num, by omega, rfl, hwgc, a11, hkw11⟩
      · have hmod : ((m : Int).tmod 3 == 0) = false := by rw [Int.tmod_eq_emod_of_nonneg (by omega)]; simp; omega
        go_wp2_with fail
        go_roundg (n - (m + 1))
        case measure => omega
        case rel => exact ⟨m + 1, g, by omega, by go_num, by omega, rfl, HWG.out, a7, hkw7⟩
    · go_wp2_with fail
      go_ret
      exact ⟨rfl, hkr⟩
end Go.Proofs.Ytoanghpakdfiaaa
