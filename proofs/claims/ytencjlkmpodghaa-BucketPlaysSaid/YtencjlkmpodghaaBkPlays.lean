/- The walk of BucketPlays. -/
import Derived.Test.YtencjlkmpodghaaBkRef
import Derived.Test.YtencjlkmpodghaaBkBound
import Derived.Deep.RegionLaw
import Derived.Deep.LoopGhost
import Derived.Deep.CutRange
namespace Go.Proofs.Ytencjlkmpodghaa
open Go.RowKit
set_option linter.unusedVariables false

set_option maxHeartbeats 400000 in
theorem bleft_q (g : Nat) (r b l : Int) (w : World) (hb : Bk w g r b l) :
    Calls Try.prog 39 #[.pointer (some ⟨g, 0, none⟩)] w fun e w' => e = .returned (.int .i64 l) ∧ w' = w :=
  (bleft_some g r b l w hb).mono fun _ _ ⟨h1, h2⟩ => ⟨h1, h2.symm⟩

set_option maxRecDepth 100000 in
set_option maxHeartbeats 4000000 in
theorem bplays_in (r b : Int) (A : Option Addr) (n c : Nat) (xs : List Value) (w : World) (h1 : 1 ≤ r) (h2 : r ≤ 4096) (h3 : 64 ≤ b) (h4 : b ≤ 16384) (h7 : n ≤ 1000) (hnc : n ≤ c) (hc : c ≤ maxLen)
    (hL : Ls w A n xs) (hR : RowsOk w xs) :
    Calls Try.prog 11 #[.int .i64 r, .int .i64 b, .slice A n c] w (Yes w) := by
  unfold maxLen at hc
  go_enter Try.func11, Try.ntmps11
  go_wp2_with fail
  refine (bnew_ok r b _ h1 h2 h3 h4).mono ?_
  rintro e w1 ⟨rfl, hb1, hk1⟩
  go_wp2_with fail
  refine (rnew_ok r b _ h1 h2 h3 h4).mono ?_
  rintro e w2 ⟨rfl, hr2, hk2⟩
  go_wp2_with fail
  refine (bawake _).mono ?_
  rintro e w3 ⟨rfl, hk3⟩
  have hb3 : Bk w3 w.heap.size r b b := At.kp (At.kp hb1 hk2 (by simp)) hk3 (by simp)
  have hr3 : Rk w3 w1.heap.size r b b := At.kp hr2 hk3 (by simp)
  have hkp0 : Kp [] w w3 := (hk1.then hk2 (by simp)).then hk3 (by simp)
  have hz1 : w.heap.size < w1.heap.size := hb1.lt
  generalize hg1 : w1.heap.size = g1 at *
  clear hg1 hb1 hk1 hk2 hk3 hr2
  go_wp2_with fail
  go_loopg [53, 7] n (fun gk i bp wr => ∃ (k g : Nat) (m : Int), gk = n - k ∧ i = .int .i64 k ∧ bp = .pointer (some ⟨g, 0, none⟩) ∧ k ≤ n ∧ 0 ≤ m ∧ m ≤ b ∧ w.heap.size ≤ g ∧ g ≠ g1 ∧ Bk wr g r b m ∧ Rk wr g1 r b m ∧ Kp [] w wr)
  case atStart => exact ⟨0, _, b, rfl, rfl, rfl, Nat.zero_le _, by omega, by omega, Nat.le_refl _, by omega, hb3, hr3, hkp0⟩
  case round =>
    clear hb3 hkp0 hr3
    obtain ⟨k, g, m, hgk, rfl, rfl, hk, hm0, hm1, hg, hgn, hbk, hrk, hkp⟩ := hrel
    have HGK := Lib.hid hgk
    clear hgk
    by_cases hlt : k < n
    · obtain ⟨ad', A', n', c', zs, rfl, hcell, hxk, hnc', hc', hL0⟩ := hR.at_ (k := k) hL (by omega) hkp
      have hL' := hL0.kp hkp (by simp)
      clear hxk
      unfold maxLen at hc'
      by_cases h1k : 1000 < n'
      · go_wp2_with fail
        go_ret
        exact ⟨rfl, hkp⟩
      · have hwg : g < wr.heap.size := hbk.lt
        have hwg1 : g1 < wr.heap.size := hrk.lt
        have hszr : w.heap.size ≤ wr.heap.size := hkp.size
        go_wp2_with fail
        refine (bcopy_some g r b m _ hbk).mono ?_
        rintro e w4 ⟨rfl, hbc, hk4⟩
        have hbk4 : Bk w4 g r b m := At.kp hbk hk4 (by simp)
        have hrk4 : Rk w4 g1 r b m := At.kp hrk hk4 (by simp)
        have hkp4 : Kp [] w w4 := hkp.then hk4 (by simp)
        have hL4 := hL0.kp hkp4 (by simp)
        clear hcell hL' hbk hrk hk4
        go_wp2_with fail
        have hbd := taken_bd zs m (by omega)
        obtain ⟨kn, hkn⟩ : ∃ kn, kn = (taken m zs).1 := ⟨_, rfl⟩
        obtain ⟨m2, hm2⟩ : ∃ m2, m2 = (taken m zs).2 := ⟨_, rfl⟩
        rw [← hkn, ← hm2] at hbd
        have HZ := Lib.hid (show taken m zs = (kn, m2) from Prod.ext hkn.symm hm2.symm)
        clear hkn hm2
        have hw4 : g < w4.heap.size := hbk4.lt
        have hw5 : g1 < w4.heap.size := hrk4.lt
        have hsz4 := hkp4.size
        have hoffA : 0 < n' → ∀ ad, A' = some ad → ad.block ≠ g1 := fun h0 ad had => by have := hL0.off h0 ad had; omega
        have hgc : wr.heap.size < w4.heap.size := hbc.lt
        have hgc' : g ≠ wr.heap.size := by omega
        have hgc1 : g1 ≠ wr.heap.size := by have := hwg1; omega
        go_cut [53, 84] from 53 to 108 (fun s53 s84 wx => s53 = .int .i64 k ∧ s84 = .bool false ∧ Bk wx g r b m2 ∧ Rk wx g1 r b m2 ∧ Bk wx wr.heap.size r b m ∧ Kp [] w wx)
        case first =>
          go_region_law (first
            | (refine step_copy_int w4.heap.size w4.heap.size rfl (.tmp 68) (.tmp 69) rfl A' n' c' zs (by simp [Act.eval]) (by simp [Act.eval]) ?_ ?_ (Nat.le_refl _) (by omega) ?_; exact At.drew (At.new w4 _ _); exact Ls.kp hL4 (((Kp.rfl_ [] w4).alloc _).drew) (by simp); intro A2 c2 w5 hc5 hL5 hA5 hk5; have hkp5 : Kp [] w w5 := ((hkp4.alloc _).drew).then hk5 (by simp; omega); have hbk5 : Bk w5 g r b m := At.kp (At.drew (At.alloc hbk4 _)) hk5 (by simp; omega); have hrk5 : Rk w5 g1 r b m := At.kp (At.drew (At.alloc hrk4 _)) hk5 (by simp; omega))
            | (go_simp; go_at_call 37; refine (btake_to g r b m A2 n' c2 zs kn m2 w5 HZ.out hbk5 (by omega) (by omega) hL5 (fun _ ad had => by have := hA5 ad had; omega) (by unfold maxLen; omega)).mono ?_; rintro e w6 ⟨rfl, hbk6, hk6⟩; have hkp6 : Kp [] w w6 := hkp5.then hk6 (by simp; omega); have hrk6 : Rk w6 g1 r b m := At.kp hrk5 hk6 (by simp; omega); have hL6 := hL0.kp hkp6 (by simp))
            | (go_simp; go_at_call 38; refine (rtake_to g1 r b m A' n' c' zs kn m2 w6 HZ.out hrk6 (by omega) (by omega) hL6 hoffA (by unfold maxLen; omega)).mono ?_; rintro e w7 ⟨rfl, hrk7, hk7⟩; have hkp7 : Kp [] w w7 := hkp6.then hk7 (by simp; omega); have hbk7 : Bk w7 g r b m2 := At.kp hbk6 hk7 (by simp; omega); have hld7 := hrk7.cells.2.2.1)
            | (go_simp; go_at_call 39; refine (bleft_some g r b m2 w7 hbk7).mono ?_; rintro e w8 ⟨rfl, rfl⟩))
          all_goals (go_wp2_with fail; go_meet; exact ⟨rfl, rfl, hbk7, hrk7, At.kp (At.kp (At.kp (At.drew (At.alloc hbc _)) hk5 (by simp; omega)) hk6 (by simp; omega)) hk7 (by simp; omega), hkp7⟩)
        case rest =>
          clear hbc hbk4 hrk4 hkp4 hL4 hw4 hw5 hgc hsz4 hkp hwg hwg1
          obtain ⟨rfl, rfl, hbk, hrk, hbc, hkp⟩ := hcut
          have hm2b : 0 ≤ m2 ∧ m2 ≤ b := by omega
          have hszw : w.heap.size ≤ wr.heap.size := hszr
          have hL := hL0.kp hkp (by simp)
          by_cases h3 : k % 3 = 2
          · have h3' : ((k : Int) % 3 == 2) = true := beq_iff_eq.2 (by omega)
            clear h3
            go_wp2_with fail
            have hz := hbk.lt
            have hbt := taken_bd [1, 1] m2 (by omega)
            refine (btake_some g r b m2 _ 2 2 [1, 1] _ (hbk.alloc _) (by omega) (by omega) (Ls.of_at (At.new _ _ _)) (by rintro _ ad ⟨rfl⟩; simp; omega) (by unfold maxLen; omega)).mono ?_
            rintro e w8 ⟨rfl, -, hk8⟩
            have hkp8 : Kp [] w w8 := (hkp.alloc _).then hk8 (by simp; omega)
            have hrk8 : Rk w8 g1 r b m2 := At.kp (At.alloc hrk _) hk8 (by simp; omega)
            have hbc8 : Bk w8 wr.heap.size r b m := At.kp (At.alloc hbc _) hk8 (by simp; omega)
            have hL8 := hL0.kp hkp8 (by simp)
            clear hbk hrk hbc hL hk8
            go_wp2_with (at_builtin; refine wpl_copy_int w8 rfl _ _ rfl A' n' c' zs rfl rfl hL8 (by omega) ?_; intro A2 c2 w5 hc5 hL5 hA5 hk5)
            have hkp5 : Kp [] w w5 := hkp8.then hk5 (by simp)
            have hrk5 : Rk w5 g1 r b m2 := At.kp hrk8 hk5 (by simp)
            have hbc5 : Bk w5 wr.heap.size r b m := At.kp hbc8 hk5 (by simp)
            have hlt8 := hbc8.lt
            refine (btake_to wr.heap.size r b m A2 n' c2 zs kn m2 _ HZ.out hbc5 (by omega) (by omega) hL5 (fun _ ad had => by have := hA5 ad had; omega) (by unfold maxLen; omega)).mono ?_
            rintro e w6 ⟨rfl, hbc6, hk6⟩
            have hkp6 : Kp [] w w6 := hkp5.then hk6 (by simp; omega)
            have hrk6 : Rk w6 g1 r b m2 := At.kp hrk5 hk6 (by simp; omega)
            clear hrk8 hbc8 hL8 hk5 hL5 hA5 hrk5 hbc5 hk6 hkp8
            go_wp2_with fail
            refine (btick_some wr.heap.size r b m2 _ hbc6 (by omega) (by omega) (by omega) (by omega)).mono ?_
            rintro e w7 ⟨rfl, hbc7, hk7⟩
            have hkp7 : Kp [] w w7 := hkp6.then hk7 (by simp; omega)
            have hrk7 : Rk w7 g1 r b m2 := At.kp hrk6 hk7 (by simp; omega)
            go_wp2_with fail
            refine (rtick g1 r b m2 _ hrk7 (by omega) (by omega) (by omega) (by omega)).mono ?_
            rintro e w9 ⟨rfl, hrk9, hk9⟩
            have hkp9 : Kp [] w w9 := hkp7.then hk9 (by simp; omega)
            have hbc9 : Bk w9 wr.heap.size r b (ticked r b m2) := At.kp hbc7 hk9 (by simp; omega)
            have ht : 0 ≤ ticked r b m2 ∧ ticked r b m2 ≤ b := by unfold ticked; split <;> omega
            generalize ticked r b m2 = m9 at *
            clear hbc6 hk7 hrk7 hbc7 hrk6 hk9
            have hld := hrk9.cells.2.2.1
            go_wp2_with fail
            go_quiet ((go_at_call 39; exact Calls.quiet_of_same (bleft_q wr.heap.size r b m9 _ hbc9)))
            go_wp2_with fail
            go_roundg (n - (k + 1))
            case measure => have := HGK.out; omega
            case rel => exact ⟨k + 1, wr.heap.size, m9, rfl, by go_num, rfl, by omega, by omega, by omega, by omega, by omega, hbc9.drewN _, hrk9.drewN _, hkp9.drewN _⟩
          · have h3' : ((k : Int) % 3 == 2) = false := by rw [beq_eq_false_iff_ne]; omega
            clear h3
            go_wp2_with fail
            refine (btick_some g r b m2 _ hbk (by omega) (by omega) (by omega) (by omega)).mono ?_
            rintro e w7 ⟨rfl, hbc7, hk7⟩
            have hkp7 : Kp [] w w7 := hkp.then hk7 (by simp; omega)
            have hrk7 : Rk w7 g1 r b m2 := At.kp hrk hk7 (by simp; omega)
            go_wp2_with fail
            refine (rtick g1 r b m2 _ hrk7 (by omega) (by omega) (by omega) (by omega)).mono ?_
            rintro e w9 ⟨rfl, hrk9, hk9⟩
            have hkp9 : Kp [] w w9 := hkp7.then hk9 (by simp; omega)
            have hbc9 : Bk w9 g r b (ticked r b m2) := At.kp hbc7 hk9 (by simp; omega)
            have ht : 0 ≤ ticked r b m2 ∧ ticked r b m2 ≤ b := by unfold ticked; split <;> omega
            generalize ticked r b m2 = m9 at *
            clear hk7 hrk7 hbc7 hk9 hbk hrk hbc
            have hld := hrk9.cells.2.2.1
            go_wp2_with fail
            go_quiet ((go_at_call 39; exact Calls.quiet_of_same (bleft_q g r b m9 _ hbc9)))
            go_wp2_with fail
            go_roundg (n - (k + 1))
            case measure => have := HGK.out; omega
            case rel => exact ⟨k + 1, g, m9, rfl, by go_num, rfl, by omega, by omega, by omega, by omega, by omega, hbc9.drewN _, hrk9.drewN _, hkp9.drewN _⟩
    · go_wp2_with fail
      go_ret
      exact ⟨rfl, hkp⟩

set_option maxHeartbeats 1000000 in
theorem bplays_bad (r b : Int) (A : Option Addr) (n c : Nat) (xs : List Value) (w : World) (h : NewBad r b) (h7 : n ≤ 1000) (hL : Ls w A n xs) (hR : RowsOk w xs) :
    Calls Try.prog 11 #[.int .i64 r, .int .i64 b, .slice A n c] w (Yes w) := by
  go_enter Try.func11, Try.ntmps11
  go_wp2_with fail
  refine (bnew_bad r b _ h).mono ?_
  rintro e w1 ⟨rfl, rfl⟩
  go_wp2_with fail
  refine (rnew_bad r b _ h).mono ?_
  rintro e w2 ⟨rfl, rfl⟩
  go_wp2_with fail
  refine (bawake _).mono ?_
  rintro e w3 ⟨rfl, hk3⟩
  go_wp2_with fail
  go_loopg [53, 7] n (fun gk i b wr => ∃ k : Nat, gk = n - k ∧ i = .int .i64 k ∧ b = .pointer none ∧ k ≤ n ∧ Kp [] w wr)
  case atStart => exact ⟨0, rfl, rfl, rfl, Nat.zero_le _, hk3⟩
  case round =>
    obtain ⟨k, hgk, rfl, rfl, hk, hkp⟩ := hrel
    have HGK := Lib.hid hgk
    clear hgk hk3
    by_cases hlt : k < n
    · obtain ⟨ad', A', n', c', zs, rfl, hcell, hxk, hnc', hc', hL0⟩ := hR.at_ (k := k) hL (by omega) hkp
      clear hxk
      go_wp2_with fail
      go_ret
      exact ⟨rfl, hkp⟩
    · go_wp2_with fail
      go_ret
      exact ⟨rfl, hkp⟩
set_option maxHeartbeats 1000000 in
theorem bplays_out (r b : Int) (A : Option Addr) (n c : Nat) (w : World) (h7 : 1000 < n) :
    Calls Try.prog 11 #[.int .i64 r, .int .i64 b, .slice A n c] w (Yes w) := by
  by_cases h : NewBad r b
  · go_enter Try.func11, Try.ntmps11
    go_wp2_with fail
    refine (bnew_bad r b _ h).mono ?_
    rintro e w1 ⟨rfl, rfl⟩
    go_wp2_with fail
    refine (rnew_bad r b _ h).mono ?_
    rintro e w2 ⟨rfl, rfl⟩
    go_wp2_with fail
    refine (bawake _).mono ?_
    rintro e w3 ⟨rfl, hk3⟩
    go_wp2_with fail
    refine (bawake _).mono ?_
    rintro e w4 ⟨rfl, hk4⟩
    go_wp2_with fail
    go_ret
    exact ⟨rfl, hk3.then hk4 (by simp)⟩
  · have hb : 1 ≤ r ∧ r ≤ 4096 ∧ 64 ≤ b ∧ b ≤ 16384 := by unfold NewBad at h; omega
    obtain ⟨h1, h2, h3, h4⟩ := hb
    clear h
    go_enter Try.func11, Try.ntmps11
    go_wp2_with fail
    refine (bnew_ok r b _ h1 h2 h3 h4).mono ?_
    rintro e w1 ⟨rfl, hb1, hk1⟩
    go_wp2_with fail
    refine (rnew_ok r b _ h1 h2 h3 h4).mono ?_
    rintro e w2 ⟨rfl, hr2, hk2⟩
    go_wp2_with fail
    refine (bawake _).mono ?_
    rintro e w3 ⟨rfl, hk3⟩
    go_wp2_with fail
    refine (bawake _).mono ?_
    rintro e w4 ⟨rfl, hk4⟩
    go_wp2_with fail
    go_ret
    exact ⟨rfl, ((hk1.then hk2 (by simp)).then hk3 (by simp)).then hk4 (by simp)⟩
theorem bplays_walk (v0 v1 v2 : Value) (w : World) (i0 : In w 3 v0) (i1 : In w 3 v1) (i2 : In w 44 v2) :
    Calls Try.prog 11 #[v0, v1, v2] w (Yes w) := by
  obtain ⟨r, rfl, -⟩ := in_int Try.underlying3 i0
  obtain ⟨b, rfl, -⟩ := in_int Try.underlying3 i1
  obtain ⟨A, n, c, xs, rfl, hnc, hc, hL, hx, -, -⟩ := rd_slice Try.underlying44 (by kernel_rfl) (in_rd_slice Try.underlying44 i2)
  by_cases ho : 1000 < n
  · exact bplays_out r b A n c w ho
  · by_cases hbad : NewBad r b
    · exact bplays_bad r b A n c xs w hbad (by omega) hL (rows_ok hx)
    · have hb : 1 ≤ r ∧ r ≤ 4096 ∧ 64 ≤ b ∧ b ≤ 16384 := by unfold NewBad at hbad; omega
      exact bplays_in r b A n c xs w hb.1 hb.2.1 hb.2.2.1 hb.2.2.2 (by omega) hnc hc hL (rows_ok hx)
end Go.Proofs.Ytencjlkmpodghaa
